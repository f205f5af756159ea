/-
  The specification's EpochsOk answers the plain test of the epochs. No condition but that the slices read.
-/
import Derived.Test.YtcolcnkjcagbaaaDoorEpOks
namespace Go.Proofs.YtcolcnkjcagbaaaDoor.Ep
open Go.RowKit
set_option linter.unusedVariables false

def inB (n lo hi : Int) : Bool := decide (lo ≤ n) && decide (n ≤ hi)
theorem inB_true {n lo hi : Int} (h : lo ≤ n ∧ n ≤ hi) : inB n lo hi = true := by simp [inB, h.1, h.2]
theorem inB_false {n lo hi : Int} (h : ¬ (lo ≤ n ∧ n ≤ hi)) : inB n lo hi = false := by
  have : ¬ (inB n lo hi = true) := by simp [inB]; omega
  simpa using this

theorem l1In_in (n lo hi : Int) (w : World) : Calls Tryd.prog 23 #[.int .i64 n, .int .i64 lo, .int .i64 hi] w fun e w' => e = .returned (.bool (inB n lo hi)) ∧ w' = w := l1In_any n lo hi w

theorem few {Z : Nat → Int} : ∀ n, memB Z n = true → risesI Z n = true → (∀ i, i < n → (i : Int) + 1 ≤ Z i) ∧ (n ≤ 5)
  | 0, _, _ => ⟨fun i hi => absurd hi (Nat.not_lt_zero _), by omega⟩
  | 1, hm, _ => by
    rw [memB_succ] at hm
    simp at hm
    exact ⟨fun i hi => by obtain rfl : i = 0 := by omega
                          simp; omega, by omega⟩
  | n + 2, hm, hr => by
    rw [memB_succ] at hm
    rw [risesI_succ Z (n + 1) (by omega)] at hr
    simp at hm hr
    have ih := few (n + 1) hm.1 hr.1
    have h1 := ih.1 n (by omega)
    have h2 := hr.2
    have h3 := hm.2
    refine ⟨fun i hi => ?_, by omega⟩
    by_cases hi' : i < n + 1
    · exact ih.1 i hi'
    · obtain rfl : i = n + 1 := by omega
      omega

theorem epB_few {K : Int} {n : Nat} {Z : Nat → Int} (h : 5 < n) : epB K n Z = false := by
  have : ¬ (epB K n Z = true) := by
    unfold epB
    intro h'
    simp only [Bool.and_eq_true] at h'
    have := (few n h'.1.2 h'.2).2
    omega
  simpa using this

/-- the members below n are right and rise -/
def memsB (Z : Nat → Int) (n : Nat) : Bool := memB Z n && risesI Z n

theorem memsB_zero (Z : Nat → Int) : memsB Z 0 = true := rfl
theorem memsB_step {Z : Nat → Int} {n : Nat} (h : memsB Z n = true) (h1 : 1 ≤ Z n ∧ Z n ≤ 5) (h2 : 1 ≤ n → Z (n - 1) < Z n) : memsB Z (n + 1) = true := by
  unfold memsB at *
  simp only [Bool.and_eq_true] at *
  refine ⟨by rw [memB_succ, h.1]; simp [h1.1, h1.2], ?_⟩
  by_cases hn : 1 ≤ n
  · rw [risesI_succ Z n hn, h.2]; simp [h2 hn]
  · obtain rfl : n = 0 := by omega
    rfl

theorem epB_mems {K : Int} {n : Nat} {Z : Nat → Int} (h : 100 ≤ K ∧ K ≤ 199) : epB K n Z = memsB Z n := by
  unfold epB memsB
  simp [h.1, h.2]

theorem memsB_out {Z : Nat → Int} {n k : Nat} (hk : k < n) (h : ¬ (1 ≤ Z k ∧ Z k ≤ 5)) : memsB Z n = false := by
  unfold memsB
  rw [memB_false hk (by omega)]; rfl

theorem memsB_down' {Z : Nat → Int} {n k : Nat} (hk : k < n) (h0 : 0 < k) (h : Z k ≤ Z (k - 1)) : memsB Z n = false := by
  unfold memsB
  rw [risesI_false hk (by omega) h]; simp

set_option maxHeartbeats 1000000 in
theorem specEpochsOk_any (a : Option Addr) (len cap : Nat) (K : Nat → Int) (L : Nat → Nat) (M : Nat → Nat → Int) (w : World) (h : IsEps w a len cap K L M) :
    Calls Tryd.prog 27 #[.slice a len cap] w fun e w' => e = .returned (.bool (epsB K L M len)) ∧ Below w.heap.size w w' := by
  obtain ⟨hlc, hcm, hc⟩ := h
  by_cases h5 : 5 < len
  · have hres : Hid (epsB K L M len = false) := by
      show _ = _
      unfold epsB
      have : decide (len ≤ 5) = false := by simp; omega
      rw [this]; simp
    have h5' : (5 : Int) < (len : Int) := by omega
    go_enter Tryd.func27, Tryd.ntmps27
    go_wp2
    go_ret
    exact ⟨ret_bool hres.out.symm, Below.refl _ _⟩
  have h5' : (len : Int) ≤ 5 := by omega
  have hres : Hid (epsB K L M len = epsTo K L M len) := by
    show _ = _
    unfold epsB
    have : decide (len ≤ 5) = true := by simp; omega
    rw [this]; simp
  clear h5
  go_enter Tryd.func27, Tryd.ntmps27
  go_wp2
  go_loopw [3] (fun i wr => ∃ k : Nat, k ≤ len ∧ i = .int .i64 k ∧ Hid (epsTo K L M k = true) ∧ Below w.heap.size w wr) (fun i _ => len - (intOf i).toNat)
  case atStart => exact ⟨0, Nat.zero_le _, rfl, rfl, Below.refl _ _⟩
  case round =>
    obtain ⟨k, hk, rfl, hm, hB⟩ := hrel
    by_cases hlt : k < len
    · obtain ⟨b, off, A, C, rfl, hbs, hcell⟩ := hc (by omega)
      obtain ⟨c1, c2, c3⟩ := hcell k hlt
      have d1 := (hB.cell (p := ⟨b, off + k * 2, none⟩) hbs).trans c1
      have d2 := (hB.cell (p := ⟨b, off + k * 2 + 1, none⟩) hbs).trans c2
      have d3 := c3.below hB
      have hbw : b < wr.heap.size := by have := hB.size; omega
      by_cases hkin : 100 ≤ K k ∧ K k ≤ 199
      · have hT := inB_true hkin
        by_cases hk0 : k = 0
        · have hki : (k : Int) ≤ 0 := by omega
          have hkd : decide ((0 : Int) < (k : Int)) = false := by simp; omega
          have hkn : ¬ (0 < k) := by omega
          have HS : Hid (((k == 0 || decide (K (k - 1) < K k)) && epB (K k) (L k) (M k)) = epB (K k) (L k) (M k)) := by
            show _ = _
            simp [hk0]
          clear hcell hc c1 c2 c3 hk0
          generalize A k = Ak at *
          have hBA : Below w.heap.size w (wr.alloc (.cells #[.int .i64 (K k), .slice Ak (L k) (C k)] 58)) := hB.alloc hB.size _
          by_cases hL5 : 5 < L (k)
          · have hr : Hid (epsB K L M len = false) := by
              show _ = _
              rw [hres.out, epsTo_false hlt (by rw [epB_few hL5]; simp)]
            have hL5' : (5 : Int) < (L (k) : Int) := by omega
            go_wp2
            go_quiet ((go_at_call 23; refine (l1In_in _ _ _ _).mono ?_; rintro e w1 ⟨rfl, rfl⟩; exact ⟨rfl, _, rfl⟩))
            go_wp2
            go_ret
            exact ⟨ret_bool hr.out.symm, below_drewN hBA _⟩
          · skip
            have hin5 : (L (k) : Int) ≤ 5 := by omega
            go_wp2
            go_quiet ((go_at_call 23; refine (l1In_in _ _ _ _).mono ?_; rintro e w1 ⟨rfl, rfl⟩; exact ⟨rfl, _, rfl⟩))
            go_wp2
            go_loopw [5] (fun i w2 => ∃ m : Nat, m ≤ L (k) ∧ i = .int .i64 m ∧ Hid (memsB (M (k)) m = true) ∧ ∃ n, w2 = (wr.alloc (.cells #[.int .i64 (K (k)), .slice Ak (L (k)) (C (k))] 58)).drewN n) (fun i _ => L (k) - (intOf i).toNat)
            case atStart => exact ⟨0, Nat.zero_le _, rfl, memsB_zero _, _, rfl⟩
            case round =>
              obtain ⟨m, hml, rfl, hms, n2, rfl⟩ := hrel
              by_cases hmlt : m < L (k)
              · obtain ⟨b2, off2, rfl, hb2, hcell2⟩ := d3.2.2 (by omega)
                have x1 := hcell2 m hmlt
                by_cases hmi : 1 ≤ M (k) m ∧ M (k) m ≤ 5
                · have hmT := inB_true hmi
                  by_cases hm0 : m = 0
                  · have hmi0 : (m : Int) ≤ 0 := by omega
                    have hmd : decide ((0 : Int) < (m : Int)) = false := by simp; omega
                    have hmn : ¬ (0 < m) := by omega
                    have hms' : Hid (memsB (M (k)) (m + 1) = true) := memsB_step hms.out hmi (fun h => absurd h (by omega))
                    clear hcell2 hm0
                    go_wp2
                    go_quiet ((go_at_call 23; refine (l1In_in _ _ _ _).mono ?_; rintro e w1 ⟨rfl, rfl⟩; exact ⟨rfl, _, rfl⟩))
                    go_wp2
                    go_roundw
                    case rel => exact ⟨m + 1, by omega, by go_num, hms', _, rfl⟩
                    case measure => simp [intOf]; omega
                  · have x2 := hcell2 (m - 1) (by omega)
                    have x3 : wr.cell? ⟨b2, off2 + ((m : Int) - 1).toNat, none⟩ = some (.int .i64 (M (k) (m - 1))) := by rw [show ((m : Int) - 1).toNat = m - 1 by omega]; exact x2
                    have hmp : (0 : Int) < (m : Int) := by omega
                    have hmp' : 0 < m := by omega
                    clear hcell2 hm0
                    by_cases hdn : M (k) m ≤ M (k) (m - 1)
                    · have hr : Hid (epsB K L M len = false) := by
                        show _ = _
                        rw [hres.out, epsTo_false hlt (by rw [epB_mems hkin, memsB_down' hmlt hmp' hdn]; simp)]
                      go_wp2
                      go_quiet ((go_at_call 23; refine (l1In_in _ _ _ _).mono ?_; rintro e w1 ⟨rfl, rfl⟩; exact ⟨rfl, _, rfl⟩))
                      go_wp2
                      go_ret
                      exact ⟨ret_bool hr.out.symm, below_drewN (below_drewN hBA _) _⟩
                    · have hup : M (k) (m - 1) < M (k) m := by omega
                      have hupd : decide (M (k) m ≤ M (k) (m - 1)) = false := by simpa using hdn
                      have hms' : Hid (memsB (M (k)) (m + 1) = true) := memsB_step hms.out hmi (fun _ => hup)
                      clear hdn
                      go_wp2
                      go_quiet ((go_at_call 23; refine (l1In_in _ _ _ _).mono ?_; rintro e w1 ⟨rfl, rfl⟩; exact ⟨rfl, _, rfl⟩))
                      go_wp2
                      go_roundw
                      case rel => exact ⟨m + 1, by omega, by go_num, hms', _, rfl⟩
                      case measure => simp [intOf]; omega
                · have hmF := inB_false hmi
                  have hr : Hid (epsB K L M len = false) := by
                    show _ = _
                    rw [hres.out, epsTo_false hlt (by rw [epB_mems hkin, memsB_out hmlt hmi]; simp)]
                  go_wp2
                  go_quiet ((go_at_call 23; refine (l1In_in _ _ _ _).mono ?_; rintro e w1 ⟨rfl, rfl⟩; exact ⟨rfl, _, rfl⟩))
                  go_wp2
                  go_ret
                  exact ⟨ret_bool hr.out.symm, below_drewN (below_drewN hBA _) _⟩
              · obtain hmL : m = L (k) := by omega
                have hm' : Hid (epsTo K L M (k + 1) = true) := by
                  show _ = _
                  rw [epsTo_succ, hm.out, HS.out, epB_mems hkin, ← hmL, hms.out]; rfl
                clear hmL
                go_wp2
                go_roundw
                case rel => exact ⟨k + 1, by omega, by go_num, hm', below_drewN hBA _⟩
                case measure => simp [intOf]; omega
        · obtain ⟨j, rfl⟩ : ∃ j, k = j + 1 := ⟨k - 1, by omega⟩
          have p1 := (hB.cell (p := ⟨b, off + j * 2, none⟩) hbs).trans (hcell j (by omega)).1
          clear hcell hc c1 c2 c3 hk0
          generalize A (j + 1) = Ak at *
          have hBA : Below w.heap.size w (wr.alloc (.cells #[.int .i64 (K (j + 1)), .slice Ak (L (j + 1)) (C (j + 1))] 58)) := hB.alloc hB.size _
          by_cases hge : K (j + 1) ≤ K j
          · have hr : Hid (epsB K L M len = false) := by
              show _ = _
              have hdf : decide (K (j + 1 - 1) < K (j + 1)) = false := by simp; omega
              rw [hres.out, epsTo_false hlt (by rw [hdf]; simp)]
            go_wp2
            go_quiet ((go_at_call 23; refine (l1In_in _ _ _ _).mono ?_; rintro e w1 ⟨rfl, rfl⟩; exact ⟨rfl, _, rfl⟩))
            go_wp2
            go_ret
            exact ⟨ret_bool hr.out.symm, below_drewN hBA _⟩
          · have hlk : K j < K (j + 1) := by omega
            have hgd : decide (K (j + 1) ≤ K j) = false := by simpa using hge
            have HS : Hid (((j + 1 == 0 || decide (K (j + 1 - 1) < K (j + 1))) && epB (K (j + 1)) (L (j + 1)) (M (j + 1))) = epB (K (j + 1)) (L (j + 1)) (M (j + 1))) := by
              show _ = _
              simp [hlk]
            clear hge
            by_cases hL5 : 5 < L (j + 1)
            · have hr : Hid (epsB K L M len = false) := by
                show _ = _
                rw [hres.out, epsTo_false hlt (by rw [epB_few hL5]; simp)]
              have hL5' : (5 : Int) < (L (j + 1) : Int) := by omega
              go_wp2
              go_quiet ((go_at_call 23; refine (l1In_in _ _ _ _).mono ?_; rintro e w1 ⟨rfl, rfl⟩; exact ⟨rfl, _, rfl⟩))
              go_wp2
              go_ret
              exact ⟨ret_bool hr.out.symm, below_drewN hBA _⟩
            · skip
              have hin5 : (L (j + 1) : Int) ≤ 5 := by omega
              go_wp2
              go_quiet ((go_at_call 23; refine (l1In_in _ _ _ _).mono ?_; rintro e w1 ⟨rfl, rfl⟩; exact ⟨rfl, _, rfl⟩))
              go_wp2
              go_loopw [5] (fun i w2 => ∃ m : Nat, m ≤ L (j + 1) ∧ i = .int .i64 m ∧ Hid (memsB (M (j + 1)) m = true) ∧ ∃ n, w2 = (wr.alloc (.cells #[.int .i64 (K (j + 1)), .slice Ak (L (j + 1)) (C (j + 1))] 58)).drewN n) (fun i _ => L (j + 1) - (intOf i).toNat)
              case atStart => exact ⟨0, Nat.zero_le _, rfl, memsB_zero _, _, rfl⟩
              case round =>
                obtain ⟨m, hml, rfl, hms, n2, rfl⟩ := hrel
                by_cases hmlt : m < L (j + 1)
                · obtain ⟨b2, off2, rfl, hb2, hcell2⟩ := d3.2.2 (by omega)
                  have x1 := hcell2 m hmlt
                  by_cases hmi : 1 ≤ M (j + 1) m ∧ M (j + 1) m ≤ 5
                  · have hmT := inB_true hmi
                    by_cases hm0 : m = 0
                    · have hmi0 : (m : Int) ≤ 0 := by omega
                      have hmd : decide ((0 : Int) < (m : Int)) = false := by simp; omega
                      have hmn : ¬ (0 < m) := by omega
                      have hms' : Hid (memsB (M (j + 1)) (m + 1) = true) := memsB_step hms.out hmi (fun h => absurd h (by omega))
                      clear hcell2 hm0
                      go_wp2
                      go_quiet ((go_at_call 23; refine (l1In_in _ _ _ _).mono ?_; rintro e w1 ⟨rfl, rfl⟩; exact ⟨rfl, _, rfl⟩))
                      go_wp2
                      go_roundw
                      case rel => exact ⟨m + 1, by omega, by go_num, hms', _, rfl⟩
                      case measure => simp [intOf]; omega
                    · have x2 := hcell2 (m - 1) (by omega)
                      have x3 : wr.cell? ⟨b2, off2 + ((m : Int) - 1).toNat, none⟩ = some (.int .i64 (M (j + 1) (m - 1))) := by rw [show ((m : Int) - 1).toNat = m - 1 by omega]; exact x2
                      have hmp : (0 : Int) < (m : Int) := by omega
                      have hmp' : 0 < m := by omega
                      clear hcell2 hm0
                      by_cases hdn : M (j + 1) m ≤ M (j + 1) (m - 1)
                      · have hr : Hid (epsB K L M len = false) := by
                          show _ = _
                          rw [hres.out, epsTo_false hlt (by rw [epB_mems hkin, memsB_down' hmlt hmp' hdn]; simp)]
                        go_wp2
                        go_quiet ((go_at_call 23; refine (l1In_in _ _ _ _).mono ?_; rintro e w1 ⟨rfl, rfl⟩; exact ⟨rfl, _, rfl⟩))
                        go_wp2
                        go_ret
                        exact ⟨ret_bool hr.out.symm, below_drewN (below_drewN hBA _) _⟩
                      · have hup : M (j + 1) (m - 1) < M (j + 1) m := by omega
                        have hupd : decide (M (j + 1) m ≤ M (j + 1) (m - 1)) = false := by simpa using hdn
                        have hms' : Hid (memsB (M (j + 1)) (m + 1) = true) := memsB_step hms.out hmi (fun _ => hup)
                        clear hdn
                        go_wp2
                        go_quiet ((go_at_call 23; refine (l1In_in _ _ _ _).mono ?_; rintro e w1 ⟨rfl, rfl⟩; exact ⟨rfl, _, rfl⟩))
                        go_wp2
                        go_roundw
                        case rel => exact ⟨m + 1, by omega, by go_num, hms', _, rfl⟩
                        case measure => simp [intOf]; omega
                  · have hmF := inB_false hmi
                    have hr : Hid (epsB K L M len = false) := by
                      show _ = _
                      rw [hres.out, epsTo_false hlt (by rw [epB_mems hkin, memsB_out hmlt hmi]; simp)]
                    go_wp2
                    go_quiet ((go_at_call 23; refine (l1In_in _ _ _ _).mono ?_; rintro e w1 ⟨rfl, rfl⟩; exact ⟨rfl, _, rfl⟩))
                    go_wp2
                    go_ret
                    exact ⟨ret_bool hr.out.symm, below_drewN (below_drewN hBA _) _⟩
                · obtain hmL : m = L (j + 1) := by omega
                  have hm' : Hid (epsTo K L M (j + 1 + 1) = true) := by
                    show _ = _
                    rw [epsTo_succ, hm.out, HS.out, epB_mems hkin, ← hmL, hms.out]; rfl
                  clear hmL
                  go_wp2
                  go_roundw
                  case rel => exact ⟨j + 1 + 1, by omega, by go_num, hm', below_drewN hBA _⟩
                  case measure => simp [intOf]; omega
      · have hF := inB_false hkin
        have hr : Hid (epsB K L M len = false) := by
          show _ = _
          have : epB (K k) (L k) (M k) = false := by
            unfold epB
            by_cases g : 100 ≤ K k
            · have g2 : decide (K k ≤ 199) = false := by simp; omega
              rw [g2]; simp
            · have g2 : decide (100 ≤ K k) = false := by simp; omega
              rw [g2]; simp
          rw [hres.out, epsTo_false hlt (by rw [this]; simp)]
        clear hcell hc c1 c2 c3 hkin
        have hBA : Below w.heap.size w (wr.alloc (.cells #[.int .i64 (K k), .slice (A k) (L k) (C k)] 58)) := hB.alloc hB.size _
        go_wp2
        go_quiet ((go_at_call 23; refine (l1In_in _ _ _ _).mono ?_; rintro e w1 ⟨rfl, rfl⟩; exact ⟨rfl, _, rfl⟩))
        go_wp2
        go_ret
        exact ⟨ret_bool hr.out.symm, below_drewN hBA _⟩
    · have hke : k = len := by omega
      subst hke
      go_wp2
      go_ret
      exact ⟨ret_bool (by rw [hres.out, hm.out]), hB⟩

end Go.Proofs.YtcolcnkjcagbaaaDoor.Ep
