/-
  Both EpochsOk functions, the program's and the specification's, answer the same plain test of the epochs. No condition but that the slices read.
-/
import Derived.Test.YtcolcnkjcagbaaaDoorReg
import Derived.Test.YtcolcnkjcagbaaaDoorEpEqs
namespace Go.Proofs.YtcolcnkjcagbaaaDoor.Ep
open Go.RowKit
set_option linter.unusedVariables false

theorem l1In_any (n lo hi : Int) (w : World) :
    Calls Tryd.prog 23 #[.int .i64 n, .int .i64 lo, .int .i64 hi] w fun e w' => e = .returned (.bool (decide (lo ≤ n) && decide (n ≤ hi))) ∧ w' = w := by
  by_cases h1 : lo ≤ n
  · by_cases h2 : n ≤ hi
    · go_enter Tryd.func23, Tryd.ntmps23
      go_wp2
      go_ret
      exact ⟨ret_bool (by simp [h1, h2]), rfl⟩
    · go_enter Tryd.func23, Tryd.ntmps23
      go_wp2
      go_ret
      exact ⟨ret_bool (by simp [h2]), rfl⟩
  · go_enter Tryd.func23, Tryd.ntmps23
    go_wp2
    go_ret
    exact ⟨ret_bool (by have : decide (lo ≤ n) = false := (by simp; omega); rw [this]; simp), rfl⟩

/-- one epoch is right: its key in 100 .. 199, its members in 1 .. 5 and rising -/
def memB (Z : Nat → Int) (n : Nat) : Bool := (List.range n).all fun i => decide (1 ≤ Z i) && decide (Z i ≤ 5)
def epB (K : Int) (n : Nat) (Z : Nat → Int) : Bool := decide (100 ≤ K) && decide (K ≤ 199) && memB Z n && risesI Z n

theorem memB_succ (Z : Nat → Int) (n : Nat) : memB Z (n + 1) = (memB Z n && (decide (1 ≤ Z n) && decide (Z n ≤ 5))) := by
  unfold memB
  rw [List.range_succ, List.all_append]
  simp

theorem memB_false {Z : Nat → Int} {n k : Nat} (hk : k < n) (h : Z k < 1 ∨ 5 < Z k) : memB Z n = false := by
  have : ¬ (memB Z n = true) := by
    unfold memB
    rw [List.all_eq_true]
    intro h'
    have := h' k (List.mem_range.2 hk)
    simp at this
    omega
  simpa using this

set_option maxHeartbeats 400000 in
theorem epochOk_any (K : Int) (a : Option Addr) (len cap : Nat) (Z : Nat → Int) (w : World) (h : IsI64 w a len cap Z) :
    Calls Tryd.prog 52 #[.agg #[.int .i64 K, .slice a len cap]] w fun e w' => e = .returned (.bool (epB K len Z)) ∧ Below w.heap.size w w' := by
  have hB1 : Below w.heap.size w (w.alloc (Obj.cells #[Value.int IntKind.i64 K, Value.slice a len cap] 58)) := (Below.refl _ _).alloc (Nat.le_refl _) _
  have hI := h.below hB1
  obtain ⟨hlc, hcm, hc⟩ := h
  by_cases h1 : K < 100
  · have hres : Hid (epB K len Z = false) := by
      show _ = _
      unfold epB
      have : decide (100 ≤ K) = false := by simp; omega
      rw [this]; simp
    go_enter Tryd.func52, Tryd.ntmps52
    go_wp2
    go_ret
    exact ⟨ret_bool hres.out.symm, hB1⟩
  by_cases h2 : 199 < K
  · have hres : Hid (epB K len Z = false) := by
      show _ = _
      unfold epB
      have : decide (K ≤ 199) = false := by simp; omega
      rw [this]; simp
    have hd1 : decide (100 ≤ K) = true := decide_eq_true (by omega)
    have hd2 : decide (K ≤ 199) = false := decide_eq_false (by omega)
    go_enter Tryd.func52, Tryd.ntmps52
    go_wp2
    go_ret
    exact ⟨ret_bool hres.out.symm, hB1⟩
  have h1' : 100 ≤ K := by omega
  have h2' : K ≤ 199 := by omega
  have hres : Hid (epB K len Z = (memB Z len && risesI Z len)) := by
    show _ = _
    unfold epB
    simp [h1', h2']
  have hd1 : decide (100 ≤ K) = true := decide_eq_true h1'
  have hd2 : decide (K ≤ 199) = true := decide_eq_true h2'
  clear h1 h2
  go_enter Tryd.func52, Tryd.ntmps52
  go_wp2
  clear hd1 hd2 h1' h2'
  go_loop [4, 12] (fun m i => ∃ k : Nat, k ≤ len ∧ i = .int .i64 k ∧ Hid (memB Z k = true)) (fun _ i => len - (intOf i).toNat)
  case atStart => exact ⟨0, Nat.zero_le _, rfl, rfl⟩
  case round =>
    obtain ⟨k, hk, rfl, hm⟩ := hrel
    by_cases hlt : k < len
    · obtain ⟨b, off, rfl, hbs, hcell⟩ := hc (by omega)
      have hck := hcell k hlt
      clear hcell hc
      by_cases hin : Z k < 1 ∨ 5 < Z k
      · have hr : Hid (epB K len Z = false) := by
          show _ = _
          rw [hres.out, memB_false hlt hin]; simp
        rcases hin with hin | hin
        · go_wp2
          go_ret
          exact ⟨ret_bool hr.out.symm, hB1⟩
        · have hin' : ¬ Z k < 1 := by omega
          go_wp2
          go_ret
          exact ⟨ret_bool hr.out.symm, hB1⟩
      · have g1 : 1 ≤ Z k := by omega
        have g2 : Z k ≤ 5 := by omega
        have hm' : Hid (memB Z (k + 1) = true) := by
          show _ = _
          rw [memB_succ, hm.out]
          simp [g1, g2]
        clear hin
        go_wp2
        go_round
        case rel => exact ⟨_, _, _, ⟨k + 1, by omega, by go_num, hm'⟩, rfl, rfl, rfl⟩
        case measure => simp [intOf]; omega
    · have hke : k = len := by omega
      subst hke
      go_wp2_with (go_at_call 59; refine (rises_any _ _ _ _ _ hI).mono ?_; rintro e w' ⟨rfl, n, rfl⟩)
      go_ret
      exact ⟨ret_bool (by rw [hres.out, hm.out]; simp), below_drewN hB1 n⟩

/-- the epochs below n are right and their keys rise -/
def epsTo (K : Nat → Int) (L : Nat → Nat) (M : Nat → Nat → Int) (n : Nat) : Bool := (List.range n).all fun i => (i == 0 || decide (K (i - 1) < K i)) && epB (K i) (L i) (M i)
def epsB (K : Nat → Int) (L : Nat → Nat) (M : Nat → Nat → Int) (n : Nat) : Bool := decide (n ≤ 5) && epsTo K L M n

theorem epsTo_succ (K : Nat → Int) (L : Nat → Nat) (M : Nat → Nat → Int) (n : Nat) : epsTo K L M (n + 1) = (epsTo K L M n && ((n == 0 || decide (K (n - 1) < K n)) && epB (K n) (L n) (M n))) := by
  unfold epsTo
  rw [List.range_succ, List.all_append]
  simp

theorem epsTo_false {K : Nat → Int} {L : Nat → Nat} {M : Nat → Nat → Int} {n k : Nat} (hk : k < n) (h : ((k == 0 || decide (K (k - 1) < K k)) && epB (K k) (L k) (M k)) = false) : epsTo K L M n = false := by
  have : ¬ (epsTo K L M n = true) := by
    unfold epsTo
    rw [List.all_eq_true]
    intro h'
    have := h' k (List.mem_range.2 hk)
    rw [h] at this
    cases this
  simpa using this

set_option maxHeartbeats 400000 in
theorem implEpochsOk_any (a : Option Addr) (len cap : Nat) (K : Nat → Int) (L : Nat → Nat) (M : Nat → Nat → Int) (w : World) (h : IsEps w a len cap K L M) :
    Calls Tryd.prog 43 #[.slice a len cap] w fun e w' => e = .returned (.bool (epsB K L M len)) ∧ Below w.heap.size w w' := by
  obtain ⟨hlc, hcm, hc⟩ := h
  by_cases h5 : 5 < len
  · have hres : Hid (epsB K L M len = false) := by
      show _ = _
      unfold epsB
      have : decide (len ≤ 5) = false := by simp; omega
      rw [this]; simp
    have h5' : (5 : Int) < (len : Int) := by omega
    go_enter Tryd.func43, Tryd.ntmps43
    go_wp2
    go_ret
    exact ⟨ret_bool hres.out.symm, Below.refl _ _⟩
  have h5' : (len : Int) ≤ 5 := by omega
  have hres : Hid (epsB K L M len = epsTo K L M len) := by
    show _ = _
    unfold epsB
    have : decide (len ≤ 5) = true := by simp; omega
    rw [this]; simp
  clear h5
  go_enter Tryd.func43, Tryd.ntmps43
  go_wp2
  go_loopw [3, 10] (fun _ i wr => ∃ k : Nat, k ≤ len ∧ i = .int .i64 k ∧ Hid (epsTo K L M k = true) ∧ Below w.heap.size w wr) (fun _ i _ => len - (intOf i).toNat)
  case atStart => exact ⟨0, Nat.zero_le _, rfl, rfl, Below.refl _ _⟩
  case round =>
    obtain ⟨k, hk, rfl, hm, hB⟩ := hrel
    by_cases hlt : k < len
    · obtain ⟨b, off, A, C, rfl, hbs, hcell⟩ := hc (by omega)
      obtain ⟨c1, c2, c3⟩ := hcell k hlt
      have d1 := (hB.cell (p := ⟨b, off + k * 2, none⟩) hbs).trans c1
      have d2 := (hB.cell (p := ⟨b, off + k * 2 + 1, none⟩) hbs).trans c2
      have d3 := c3.below hB
      have hBA : Below w.heap.size w (wr.alloc (.cells #[.int .i64 (K k), .slice (A k) (L k) (C k)] 58)) := hB.alloc hB.size _
      have d3 := d3.below ((Below.refl _ _).alloc (Nat.le_refl _) (.cells #[.int .i64 (K k), .slice (A k) (L k) (C k)] 58))
      have hne := Later.any (wr.alloc (.cells #[.int .i64 (K k), .slice (A k) (L k) (C k)] 58))
      have q1 : ∀ s : Later (wr.alloc (.cells #[.int .i64 (K k), .slice (A k) (L k) (C k)] 58)), s.val.cell? ⟨wr.heap.size, 0, none⟩ = some (.int .i64 (K k)) := fun s => s.cell (by simp)
      have q2 : ∀ s : Later (wr.alloc (.cells #[.int .i64 (K k), .slice (A k) (L k) (C k)] 58)), s.val.cell? ⟨wr.heap.size, 1, none⟩ = some (.slice (A k) (L k) (C k)) := fun s => s.cell (by simp)
      by_cases hk0 : k = 0
      · have hki : (k : Int) ≤ 0 := by omega
        have hkd : decide ((0 : Int) < (k : Int)) = false := by simp; omega
        have hkn : ¬ (0 < k) := by omega
        have HS : Hid (((k == 0 || decide (K (k - 1) < K k)) && epB (K k) (L k) (M k)) = epB (K k) (L k) (M k)) := by
          show _ = _
          simp [hk0]
        clear hcell hc c1 c2 c3 hk0
        by_cases hep : epB (K k) (L k) (M k) = true
        · have hm' : Hid (epsTo K L M (k + 1) = true) := by
            show _ = _
            rw [epsTo_succ, hm.out, HS.out, hep]; rfl
          go_wp2
          refine wp_region_later (by kernel_rfl) (by kernel_rfl) ?_
          repeat (go_big_quiet_step ((rename_i s; have hcc := epochOk_any (K k) (A k) (L k) (C k) (M k) s.val (d3.below s.ok); rw [hep] at hcc; exact Calls.later hcc)))
          refine wpQuiet_nil ?_
          rintro _ ⟨⟨w', hB2⟩, rfl⟩
          go_wp2
          go_roundw
          case rel => exact ⟨k + 1, by omega, by go_num, hm', hBA.trans (hB2.mono hBA.size)⟩
          case measure => simp [intOf]; omega
        · have hep : epB (K k) (L k) (M k) = false := by simpa using hep
          have hr : Hid (epsB K L M len = false) := by
            show _ = _
            rw [hres.out, epsTo_false hlt (by rw [HS.out, hep])]
          go_wp2
          refine wp_region_later (by kernel_rfl) (by kernel_rfl) ?_
          repeat (go_big_quiet_step ((rename_i s; have hcc := epochOk_any (K k) (A k) (L k) (C k) (M k) s.val (d3.below s.ok); rw [hep] at hcc; exact Calls.later hcc)))
          refine wpQuiet_nil ?_
          rintro _ ⟨⟨w', hB2⟩, rfl⟩
          go_wp2
          go_ret
          exact ⟨ret_bool hr.out.symm, hBA.trans (hB2.mono hBA.size)⟩
      · obtain ⟨j, rfl⟩ : ∃ j, k = j + 1 := ⟨k - 1, by omega⟩
        have p1 := (hcell j (by omega)).1
        have hjb : b < (wr.alloc (.cells #[.int .i64 (K (j + 1)), .slice (A (j + 1)) (L (j + 1)) (C (j + 1))] 58)).heap.size := by have := hB.size; simp; omega
        have q3 : ∀ s : Later (wr.alloc (.cells #[.int .i64 (K (j + 1)), .slice (A (j + 1)) (L (j + 1)) (C (j + 1))] 58)), s.val.cell? ⟨b, off + j * 2, none⟩ = some (.int .i64 (K j)) := fun s => (s.ok.cell (p := ⟨b, off + j * 2, none⟩) hjb).trans ((hBA.cell (p := ⟨b, off + j * 2, none⟩) hbs).trans p1)
        clear hcell hc c1 c2 c3 hk0 p1 hjb
        by_cases hge : K (j + 1) ≤ K j
        · have hr : Hid (epsB K L M len = false) := by
            show _ = _
            have hdf : decide (K (j + 1 - 1) < K (j + 1)) = false := by simp; omega
            rw [hres.out, epsTo_false hlt (by rw [hdf]; simp)]
          go_wp2
          refine wp_region_later (by kernel_rfl) (by kernel_rfl) ?_
          repeat (go_big_quiet_step (fail))
          refine wpQuiet_nil ?_
          rintro _ ⟨⟨w', hB2⟩, rfl⟩
          go_wp2
          go_ret
          exact ⟨ret_bool hr.out.symm, hBA.trans (hB2.mono hBA.size)⟩
        · have hlk : K j < K (j + 1) := by omega
          have hgd : decide (K (j + 1) ≤ K j) = false := by simpa using hge
          have HS : Hid (((j + 1 == 0 || decide (K (j + 1 - 1) < K (j + 1))) && epB (K (j + 1)) (L (j + 1)) (M (j + 1))) = epB (K (j + 1)) (L (j + 1)) (M (j + 1))) := by
            show _ = _
            simp [hlk]
          clear hge
          by_cases hep : epB (K (j + 1)) (L (j + 1)) (M (j + 1)) = true
          · have hm' : Hid (epsTo K L M (j + 1 + 1) = true) := by
              show _ = _
              rw [epsTo_succ, hm.out, HS.out, hep]; rfl
            go_wp2
            refine wp_region_later (by kernel_rfl) (by kernel_rfl) ?_
            repeat (go_big_quiet_step ((rename_i s; have hcc := epochOk_any (K (j + 1)) (A (j + 1)) (L (j + 1)) (C (j + 1)) (M (j + 1)) s.val (d3.below s.ok); rw [hep] at hcc; exact Calls.later hcc)))
            refine wpQuiet_nil ?_
            rintro _ ⟨⟨w', hB2⟩, rfl⟩
            go_wp2
            go_roundw
            case rel => exact ⟨j + 1 + 1, by omega, by go_num, hm', hBA.trans (hB2.mono hBA.size)⟩
            case measure => simp [intOf]; omega
          · have hep : epB (K (j + 1)) (L (j + 1)) (M (j + 1)) = false := by simpa using hep
            have hr : Hid (epsB K L M len = false) := by
              show _ = _
              rw [hres.out, epsTo_false hlt (by rw [HS.out, hep])]
            go_wp2
            refine wp_region_later (by kernel_rfl) (by kernel_rfl) ?_
            repeat (go_big_quiet_step ((rename_i s; have hcc := epochOk_any (K (j + 1)) (A (j + 1)) (L (j + 1)) (C (j + 1)) (M (j + 1)) s.val (d3.below s.ok); rw [hep] at hcc; exact Calls.later hcc)))
            refine wpQuiet_nil ?_
            rintro _ ⟨⟨w', hB2⟩, rfl⟩
            go_wp2
            go_ret
            exact ⟨ret_bool hr.out.symm, hBA.trans (hB2.mono hBA.size)⟩
    · have hke : k = len := by omega
      subst hke
      go_wp2
      go_ret
      exact ⟨ret_bool (by rw [hres.out, hm.out]), hB⟩

end Go.Proofs.YtcolcnkjcagbaaaDoor.Ep
