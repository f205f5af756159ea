/-
  The specification's HasKey answers whether the epochs are right and one of them has this key and this member. No condition but that the slices read.
-/
import Derived.Test.YtdohjinlgoadoaaSpecOk
namespace Go.Proofs.Ytdohjinlgoadoaa
open Go.RowKit
set_option linter.unusedVariables false

/-- all members with their epochs' keys, in order -/
def pairsOf (K : Nat → Int) (L : Nat → Nat) (M : Nat → Nat → Int) (n : Nat) : List (Int × Int) := (List.range n).flatMap fun i => (List.range (L i)).map fun j => (M i j, K i)

theorem mem_pairs {K : Nat → Int} {L : Nat → Nat} {M : Nat → Nat → Int} {n : Nat} {m k : Int} : (m, k) ∈ pairsOf K L M n ↔ ∃ i j, i < n ∧ j < L i ∧ M i j = m ∧ K i = k := by
  unfold pairsOf
  simp only [List.mem_flatMap, List.mem_map, List.mem_range, Prod.mk.injEq]
  constructor
  · rintro ⟨i, hi, j, hj, h1, h2⟩; exact ⟨i, j, hi, hj, h1, h2⟩
  · rintro ⟨i, j, hi, hj, h1, h2⟩; exact ⟨i, hi, j, hj, h1, h2⟩

def hasB (K : Nat → Int) (L : Nat → Nat) (M : Nat → Nat → Int) (n : Nat) (m k : Int) : Bool := epsB K L M n && decide ((m, k) ∈ pairsOf K L M n)

set_option maxHeartbeats 1000000 in
theorem specHasKey_any (a : Option Addr) (len cap : Nat) (K : Nat → Int) (L : Nat → Nat) (M : Nat → Nat → Int) (m key : Int) (w : World) (h : IsEps w a len cap K L M) :
    Calls Try.prog 10 #[.slice a len cap, .int .i64 m, .int .i64 key] w fun e w' => e = .returned (.bool (hasB K L M len m key)) ∧ Below w.heap.size w w' := by
  have hI := h
  obtain ⟨hlc, hcm, hc⟩ := h
  go_enter Try.func10, Try.ntmps10
  go_wp2
  go_loopw [7] (fun i wr => ∃ k : Nat, k ≤ len ∧ i = .int .i64 k ∧ Hid (∀ i j, i < k → j < L i → ¬ (M i j = m ∧ K i = key)) ∧ Below w.heap.size w wr) (fun i _ => len - (intOf i).toNat)
  case atStart => exact ⟨0, Nat.zero_le _, rfl, fun i j h => absurd h (Nat.not_lt_zero _), Below.refl _ _⟩
  case round =>
    obtain ⟨k, hk, rfl, hno, hB⟩ := hrel
    by_cases hlt : k < len
    · by_cases hep : epsB K L M len = true
      · obtain ⟨b, off, A, C, rfl, hbs, hcell⟩ := hc (by omega)
        obtain ⟨c1, c2, c3⟩ := hcell k hlt
        clear hcell hc
        have hltd : decide ((k : Int) < (len : Int)) = true := by simp; omega
        go_wp2_with (go_at_call 6; refine (specEpochsOk_any _ _ _ K L M _ (hI.below hB)).mono ?_; rintro e w1 ⟨rfl, hB1⟩; rw [hep])
        have hBF : Below w.heap.size w w1 := hB.trans (hB1.mono hB.size)
        have d1 := (hBF.cell (p := ⟨b, off + k * 2, none⟩) hbs).trans c1
        have d2 := (hBF.cell (p := ⟨b, off + k * 2 + 1, none⟩) hbs).trans c2
        have d3 := c3.below hBF
        have hLk : L k ≤ 9223372036854775807 := by have := d3.1; have := d3.2.1; omega
        clear c1 c2 c3 hB1 hltd
        by_cases hkey : K k = key
        · have hkb : (K k == key) = true := by simpa using hkey
          have HKK := (show Hid _ from hkey)
          clear hkey
          generalize A k = Ak at *
          go_loop [8] (fun i => ∃ j : Nat, j ≤ L k ∧ i = .int .i64 j ∧ Hid (∀ i, i < j → ¬ M k i = m)) (fun i => L k - (intOf i).toNat)
          case atStart => exact ⟨0, Nat.zero_le _, rfl, fun i h => absurd h (Nat.not_lt_zero _)⟩
          case round =>
            obtain ⟨j, hj, rfl, hnm⟩ := hrel
            by_cases hjl : j < L k
            · obtain ⟨b2, off2, rfl, hb2, hcell2⟩ := d3.2.2 (by omega)
              have x1 := hcell2 j hjl
              clear hcell2
              by_cases hmm : M k j = m
              · have hmb : (M k j == m) = true := by simpa using hmm
                have hr : Hid (hasB K L M len m key = true) := by
                  show _ = _
                  unfold hasB
                  rw [hep]
                  have : (m, key) ∈ pairsOf K L M len := mem_pairs.2 ⟨k, j, hlt, hjl, hmm, HKK.out⟩
                  simpa using this
                clear hmm
                go_wp2
                go_ret
                exact ⟨ret_bool hr.out.symm, hBF⟩
              · have hmb : (M k j == m) = false := by simpa using hmm
                have hnm' : Hid (∀ i, i < j + 1 → ¬ M k i = m) := by
                  intro i hi
                  rcases Nat.lt_succ_iff_lt_or_eq.1 hi with h1 | rfl
                  · exact hnm.out i h1
                  · exact hmm
                clear hmm
                go_wp2
                go_round
                case rel => exact ⟨j + 1, by omega, by go_num, hnm'⟩
                case measure => simp [intOf]; omega
            · have hjL : j = L k := by omega
              have hno' : Hid (∀ i j, i < k + 1 → j < L i → ¬ (M i j = m ∧ K i = key)) := by
                intro i jj hi hjj
                rcases Nat.lt_succ_iff_lt_or_eq.1 hi with h1 | rfl
                · exact hno.out i jj h1 hjj
                · exact fun h => hnm.out jj (by omega) h.1
              clear hjL
              go_wp2
              go_roundw
              case rel => exact ⟨k + 1, by omega, by go_num, hno', hBF⟩
              case measure => simp [intOf]; omega
        · have hkb : (K k == key) = false := by simpa using hkey
          have hno' : Hid (∀ i j, i < k + 1 → j < L i → ¬ (M i j = m ∧ K i = key)) := by
            intro i jj hi hjj
            rcases Nat.lt_succ_iff_lt_or_eq.1 hi with h1 | rfl
            · exact hno.out i jj h1 hjj
            · exact fun h => hkey h.2
          clear hkey
          refine wp_loop_rounds 1 ?_
          rw [rounds_succ]
          go_wp2
          go_roundw
          case rel => exact ⟨k + 1, by omega, by go_num, hno', hBF⟩
          case measure => simp [intOf]; omega
      · have hep' : epsB K L M len = false := by simpa using hep
        have hr : Hid (hasB K L M len m key = false) := by
          show _ = _
          unfold hasB
          rw [hep']; rfl
        have hltd : decide ((k : Int) < (len : Int)) = true := by simp; omega
        clear hep
        go_wp2_with (go_at_call 6; refine (specEpochsOk_any _ _ _ K L M _ (hI.below hB)).mono ?_; rintro e w1 ⟨rfl, hB1⟩; rw [hep'])
        go_ret
        exact ⟨ret_bool hr.out.symm, hB.trans (hB1.mono hB.size)⟩
    · have hke : k = len := by omega
      subst hke
      have hr : Hid (hasB K L M k m key = false) := by
        show _ = _
        unfold hasB
        have : decide ((m, key) ∈ pairsOf K L M k) = false := by
          simp only [decide_eq_false_iff_not, mem_pairs]
          rintro ⟨i, j, h1, h2, h3, h4⟩
          exact hno.out i j h1 h2 ⟨h3, h4⟩
        rw [this]; simp
      go_wp2
      go_ret
      exact ⟨ret_bool hr.out.symm, hB⟩

end Go.Proofs.Ytdohjinlgoadoaa
