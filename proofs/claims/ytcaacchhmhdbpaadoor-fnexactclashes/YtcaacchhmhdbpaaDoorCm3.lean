/-
  Both tests of commitments. No condition but that the slices read.
-/
import Derived.Test.YtcaacchhmhdbpaaDoorCm2
namespace Go.Proofs.YtcaacchhmhdbpaaDoor
open Go.RowKit
set_option linter.unusedVariables false

/-- a commitment is right -/
def Cm.ok (d : Cm) : Bool := inB 1 9 d.a && (inB 1 1000000 d.c && idsB d.S d.n)
/-- commitments are right -/
def cmsB (D : Nat → Cm) (len : Nat) : Bool := decide (len ≤ 30) && allB (fun i => (D i).ok) len

set_option maxHeartbeats 2000000 in
theorem specCms_any (a : Option Addr) (len cap : Nat) (D : Nat → Cm) (w : World) (h : IsCms w a len cap D) (hF : CFine D len) :
    Calls Tryd.prog 6 #[.slice a len cap] w fun e w' => e = .returned (.bool (cmsB D len)) ∧ Below w.heap.size w w' := by
  obtain ⟨hlc, hcm, hc⟩ := h
  by_cases h30 : 30 < len
  · have hr : Hid (cmsB D len = false) := by
      show _ = _
      unfold cmsB
      rw [decide_eq_false (by omega)]; rfl
    have h30' : (30 : Int) < (len : Int) := by omega
    clear hc hF
    go_enter Tryd.func6, Tryd.ntmps6
    go_wp2
    go_ret
    exact ⟨ret_bool hr.out.symm, Below.refl _ _⟩
  have hle : len ≤ 30 := by omega
  have hleI : decide ((30 : Int) < (len : Int)) = false := by simp; omega
  go_enter Tryd.func6, Tryd.ntmps6
  go_wp2
  clear h30
  go_loopw [3] (fun i wr => ∃ (k : Nat), k ≤ len ∧ i = .int .i64 k ∧ Hid (allB (fun i => (D i).ok) k = true) ∧ Below w.heap.size w wr) (fun i _ => len - (intOf i).toNat)
  case atStart => exact ⟨0, Nat.zero_le _, rfl, rfl, Below.refl _ _⟩
  case round =>
    obtain ⟨k, hk, rfl, HR, hB⟩ := hrel
    by_cases hlt : k < len
    · obtain ⟨b, off, rfl, hbs, hcell⟩ := hc (by omega)
      have hltI : (k : Int) < (len : Int) := by omega
      have m1 : CmAt wr b (off + k * 3) (D k) := by
        have n1 := hcell k hlt
        exact ⟨(hB.cell (p := ⟨b, _, none⟩) hbs).trans n1.c0, (hB.cell (p := ⟨b, _, none⟩) hbs).trans n1.c1, (hB.cell (p := ⟨b, _, none⟩) hbs).trans n1.c2, n1.i.below hB⟩
      have hf := hF k hlt
      clear hcell hc hF
      have HB : Hid (Below w.heap.size w wr) := hB
      obtain ⟨c0, c1, c2, ci⟩ := m1
      have CI : Hid (IsStrs wr (D k).u (D k).n (D k).cap (D k).S) := ci
      have HF : Hid (_) := hf
      clear ci hf hB
      cases h1 : inB 1 9 (D k).a with
      | false =>
        have hr : Hid (cmsB D len = false) := by
          show _ = _
          unfold cmsB
          rw [allB_false (p := fun i => (D i).ok) hlt (by unfold Cm.ok; rw [h1]; simp)]; simp
        go_wp2_with (first | (go_at_call_of 17 ((D k).a); refine (in_any _ 1 9 false h1 _).mono ?_; rintro e w1 ⟨rfl, rfl⟩))
        go_ret
        exact ⟨ret_bool hr.out.symm, by first | exact HB.out.trans (hB2.mono HB.out.size) | exact HB.out⟩
      | true =>
        cases h2 : inB 1 1000000 (D k).c with
        | false =>
          have hr : Hid (cmsB D len = false) := by
            show _ = _
            unfold cmsB
            rw [allB_false (p := fun i => (D i).ok) hlt (by unfold Cm.ok; rw [h1, h2]; simp)]; simp
          go_wp2_with (first | (go_at_call_of 17 ((D k).a); refine (in_any _ 1 9 true h1 _).mono ?_; rintro e w1 ⟨rfl, rfl⟩) | (go_at_call_of 17 ((D k).c); refine (in_any _ 1 1000000 false h2 _).mono ?_; rintro e w1 ⟨rfl, rfl⟩))
          go_ret
          exact ⟨ret_bool hr.out.symm, by first | exact HB.out.trans (hB2.mono HB.out.size) | exact HB.out⟩
        | true =>
          cases h3 : idsB (D k).S (D k).n with
          | false =>
            have hr : Hid (cmsB D len = false) := by
              show _ = _
              unfold cmsB
              rw [allB_false (p := fun i => (D i).ok) hlt (by unfold Cm.ok; rw [h1, h2, h3]; simp)]; simp
            go_wp2_with (first | (go_at_call_of 17 ((D k).a); refine (in_any _ 1 9 true h1 _).mono ?_; rintro e w1 ⟨rfl, rfl⟩) | (go_at_call_of 17 ((D k).c); refine (in_any _ 1 1000000 true h2 _).mono ?_; rintro e w1 ⟨rfl, rfl⟩) | (go_at_call 18; refine (specIds_b _ _ _ (D k).S _ CI.out HF.out false h3).mono ?_; rintro e w1 ⟨rfl, hB2⟩))
            go_ret
            exact ⟨ret_bool hr.out.symm, by first | exact HB.out.trans (hB2.mono HB.out.size) | exact HB.out⟩
          | true =>
            have HR' : Hid (allB (fun i => (D i).ok) (k + 1) = true) := by
              show _ = _
              rw [allB_succ, HR.out]; unfold Cm.ok; rw [h1, h2, h3]; rfl
            clear HR
            go_wp2_with (first | (go_at_call_of 17 ((D k).a); refine (in_any _ 1 9 true h1 _).mono ?_; rintro e w1 ⟨rfl, rfl⟩) | (go_at_call_of 17 ((D k).c); refine (in_any _ 1 1000000 true h2 _).mono ?_; rintro e w1 ⟨rfl, rfl⟩) | (go_at_call 18; refine (specIds_b _ _ _ (D k).S _ CI.out HF.out true h3).mono ?_; rintro e w1 ⟨rfl, hB2⟩))
            go_roundw
            case rel => exact ⟨k + 1, by omega, by go_num, HR', HB.out.trans (hB2.mono HB.out.size)⟩
            case measure => simp [intOf]; omega
    · have hke : k = len := by omega
      subst hke
      have hr : Hid (cmsB D k = true) := by
        show _ = _
        unfold cmsB
        rw [HR.out, decide_eq_true hle]; rfl
      clear HR
      go_wp2
      go_ret
      exact ⟨ret_bool hr.out.symm, hB⟩

set_option maxHeartbeats 2000000 in
theorem implCms_any (a : Option Addr) (len cap : Nat) (D : Nat → Cm) (w : World) (h : IsCms w a len cap D) (hF : CFine D len) :
    Calls Tryd.prog 8 #[.slice a len cap] w fun e w' => e = .returned (.bool (cmsB D len)) ∧ Below w.heap.size w w' := by
  obtain ⟨hlc, hcm, hc⟩ := h
  by_cases h30 : 30 < len
  · have hr : Hid (cmsB D len = false) := by
      show _ = _
      unfold cmsB
      rw [decide_eq_false (by omega)]; rfl
    have h30' : (30 : Int) < (len : Int) := by omega
    clear hc hF
    go_enter Tryd.func8, Tryd.ntmps8
    go_wp2
    go_ret
    exact ⟨ret_bool hr.out.symm, Below.refl _ _⟩
  have hle : len ≤ 30 := by omega
  have hleI : decide ((30 : Int) < (len : Int)) = false := by simp; omega
  go_enter Tryd.func8, Tryd.ntmps8
  go_wp2
  clear h30
  go_loopw [10] (fun i wr => ∃ (k : Nat), k ≤ len ∧ i = .int .i64 k ∧ Hid (allB (fun i => (D i).ok) k = true) ∧ Below w.heap.size w wr) (fun i _ => len - (intOf i).toNat)
  case atStart => exact ⟨0, Nat.zero_le _, rfl, rfl, Below.refl _ _⟩
  case round =>
    obtain ⟨k, hk, rfl, HR, hB⟩ := hrel
    by_cases hlt : k < len
    · obtain ⟨b, off, rfl, hbs, hcell⟩ := hc (by omega)
      have hltI : (k : Int) < (len : Int) := by omega
      have m1 : CmAt wr b (off + k * 3) (D k) := by
        have n1 := hcell k hlt
        exact ⟨(hB.cell (p := ⟨b, _, none⟩) hbs).trans n1.c0, (hB.cell (p := ⟨b, _, none⟩) hbs).trans n1.c1, (hB.cell (p := ⟨b, _, none⟩) hbs).trans n1.c2, n1.i.below hB⟩
      have hf := hF k hlt
      clear hcell hc hF
      have HB : Hid (Below w.heap.size w (wr.alloc (.cells #[.int .i64 (D k).a, .int .i64 (D k).c, .slice (D k).u (D k).n (D k).cap] 39))) := hB.alloc hB.size _
      obtain ⟨c0, c1, c2, ci⟩ := m1
      have CI : Hid (IsStrs (wr.alloc (.cells #[.int .i64 (D k).a, .int .i64 (D k).c, .slice (D k).u (D k).n (D k).cap] 39)) (D k).u (D k).n (D k).cap (D k).S) := ci.below ((Below.refl _ _).alloc (Nat.le_refl _) _)
      have HF : Hid (_) := hf
      clear ci hf hB
      cases h1 : inB 1 9 (D k).a with
      | false =>
        have hr : Hid (cmsB D len = false) := by
          show _ = _
          unfold cmsB
          rw [allB_false (p := fun i => (D i).ok) hlt (by unfold Cm.ok; rw [h1]; simp)]; simp
        go_wp2_with (first | (go_at_call 20; refine (author_any _ false h1 _).mono ?_; rintro e w1 ⟨rfl, rfl⟩))
        go_ret
        exact ⟨ret_bool hr.out.symm, by first | exact HB.out.trans (hB2.mono HB.out.size) | exact HB.out⟩
      | true =>
        cases h2 : inB 1 1000000 (D k).c with
        | false =>
          have hr : Hid (cmsB D len = false) := by
            show _ = _
            unfold cmsB
            rw [allB_false (p := fun i => (D i).ok) hlt (by unfold Cm.ok; rw [h1, h2]; simp)]; simp
          go_wp2_with (first | (go_at_call 20; refine (author_any _ true h1 _).mono ?_; rintro e w1 ⟨rfl, rfl⟩) | (go_at_call 21; refine (seq_any _ false h2 _).mono ?_; rintro e w1 ⟨rfl, rfl⟩))
          go_ret
          exact ⟨ret_bool hr.out.symm, by first | exact HB.out.trans (hB2.mono HB.out.size) | exact HB.out⟩
        | true =>
          cases h3 : idsB (D k).S (D k).n with
          | false =>
            have hr : Hid (cmsB D len = false) := by
              show _ = _
              unfold cmsB
              rw [allB_false (p := fun i => (D i).ok) hlt (by unfold Cm.ok; rw [h1, h2, h3]; simp)]; simp
            go_wp2_with (first | (go_at_call 20; refine (author_any _ true h1 _).mono ?_; rintro e w1 ⟨rfl, rfl⟩) | (go_at_call 21; refine (seq_any _ true h2 _).mono ?_; rintro e w1 ⟨rfl, rfl⟩) | (go_at_call 22; refine (implIds_b _ _ _ (D k).S _ CI.out HF.out false h3).mono ?_; rintro e w1 ⟨rfl, hB2⟩))
            go_ret
            exact ⟨ret_bool hr.out.symm, by first | exact HB.out.trans (hB2.mono HB.out.size) | exact HB.out⟩
          | true =>
            have HR' : Hid (allB (fun i => (D i).ok) (k + 1) = true) := by
              show _ = _
              rw [allB_succ, HR.out]; unfold Cm.ok; rw [h1, h2, h3]; rfl
            clear HR
            go_wp2_with (first | (go_at_call 20; refine (author_any _ true h1 _).mono ?_; rintro e w1 ⟨rfl, rfl⟩) | (go_at_call 21; refine (seq_any _ true h2 _).mono ?_; rintro e w1 ⟨rfl, rfl⟩) | (go_at_call 22; refine (implIds_b _ _ _ (D k).S _ CI.out HF.out true h3).mono ?_; rintro e w1 ⟨rfl, hB2⟩))
            go_roundw
            case rel => exact ⟨k + 1, by omega, by go_num, HR', HB.out.trans (hB2.mono HB.out.size)⟩
            case measure => simp [intOf]; omega
    · have hke : k = len := by omega
      subst hke
      have hr : Hid (cmsB D k = true) := by
        show _ = _
        unfold cmsB
        rw [HR.out, decide_eq_true hle]; rfl
      clear HR
      go_wp2
      go_ret
      exact ⟨ret_bool hr.out.symm, hB⟩

end Go.Proofs.YtcaacchhmhdbpaaDoor
