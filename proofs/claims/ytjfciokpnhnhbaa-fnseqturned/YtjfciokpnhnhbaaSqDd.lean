/-
  spec.DrawSeqDeleted, and the law's comparison of two sequences. No condition but that the code reads.
-/
import Derived.Test.YtjfciokpnhnhbaaSqSe
import Derived.BigQuiet
namespace Go.Proofs.Ytjfciokpnhnhbaa
open Go.RowKit
set_option linter.unusedVariables false

set_option maxHeartbeats 1000000 in
theorem same_evs (a a' : Option Addr) (len cap cap' : Nat) (D : Nat → Ev) (w : World) (h : IsEvs w a len cap D) (h' : IsEvs w a' len cap' D) :
    Calls Try.prog 11 #[.slice a len cap, .slice a' len cap'] w fun e w' => e = .returned (.bool true) ∧ Below w.heap.size w w' := by
  obtain ⟨hlc, hcm, hc⟩ := h
  obtain ⟨hlc', hcm', hc'⟩ := h'
  have hbn : ((len : Int) != (len : Int)) = false := by simp
  go_enter Try.func11, Try.ntmps11
  go_wp2
  go_loopw [5] (fun i wr => ∃ (k : Nat), k ≤ len ∧ i = .int .i64 k ∧ Below w.heap.size w wr) (fun i _ => len - (Go.RowKit.intOf i).toNat)
  case atStart => exact ⟨0, Nat.zero_le _, rfl, Below.refl _ _⟩
  case round =>
    obtain ⟨k, hk, rfl, hB⟩ := hrel
    by_cases hlt : k < len
    · obtain ⟨b, off, rfl, hbs, hcell⟩ := hc (by omega)
      obtain ⟨b', off', rfl, hbs', hcell'⟩ := hc' (by omega)
      have m1 : EvAt wr b (off + k * 4) (D k) := (hcell k hlt).grow hbs hB
      have m2 : EvAt wr b' (off' + k * 4) (D k) := (hcell' k hlt).grow hbs' hB
      have hltI : (k : Int) < (len : Int) := by omega
      obtain ⟨c0, c1, c2, c3⟩ := m1
      obtain ⟨d0, d1, d2, d3⟩ := m2
      have hq := neqE (D k) (D k)
      have hg := fun x y => guardE .neq x y (D k) (D k)
      rw [Ev.same_refl] at hq
      clear hcell hcell' hc hc'
      go_wp2
      go_quiet (fail)
      go_wp2
      go_roundw
      case rel => exact ⟨k + 1, by omega, by go_num, below_drewN hB _⟩
      case measure => simp [Go.RowKit.intOf]; omega
    · have hke : k = len := by omega
      subst hke
      clear hc hc'
      go_wp2
      go_ret
      exact ⟨rfl, hB⟩
theorem same_any (base base' : Nat) (v v' : Value) (L : List Ev) (w : World) (h : OwnV w base v L) (h' : OwnV w base' v' L) :
    Calls Try.prog 11 #[v, v'] w fun e w' => e = .returned (.bool true) ∧ Below w.heap.size w w' := by
  obtain ⟨a, cap, rfl, hI⟩ := h.evs
  obtain ⟨a', cap', rfl, hI'⟩ := h'.evs
  exact same_evs _ _ _ _ _ _ _ hI hI'


theorem results_3t {P : Program} {fn : Func} {u v x : Tmp} (h : fn.results = #[.tmp u, .tmp v, .tmp x]) (tmps : Array Value) (w : World) :
    (results fn tmps).run P w = .ok (.tuple #[tmps.getD u undef, tmps.getD v undef, tmps.getD x undef]) w := by
  simp only [results, h]
  simp
end Go.Proofs.Ytjfciokpnhnhbaa
