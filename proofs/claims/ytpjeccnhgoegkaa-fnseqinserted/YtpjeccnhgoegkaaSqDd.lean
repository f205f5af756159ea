/-
  spec.DrawSeqDeleted, and the law's comparison of two sequences. No condition but that the code reads.
-/
import Derived.Test.YtpjeccnhgoegkaaSqSe
import Derived.BigQuiet
namespace Go.Proofs.Ytpjeccnhgoegkaa
open Go.RowKit
set_option linter.unusedVariables false

set_option maxHeartbeats 1000000 in
theorem same_evs (a a' : Option Addr) (len cap cap' : Nat) (D : Nat → Ev) (w : World) (h : IsEvs w a len cap D) (h' : IsEvs w a' len cap' D) :
    Calls Try.prog 10 #[.slice a len cap, .slice a' len cap'] w fun e w' => e = .returned (.bool true) ∧ Below w.heap.size w w' := by
  obtain ⟨hlc, hcm, hc⟩ := h
  obtain ⟨hlc', hcm', hc'⟩ := h'
  have hbn : ((len : Int) != (len : Int)) = false := by simp
  go_enter Try.func10, Try.ntmps10
  go_wp2
  go_loopw [5] (fun i wr => ∃ (k : Nat), k ≤ len ∧ i = .int .i64 k ∧ Below w.heap.size w wr) (fun i _ => len - (Go.RowKit.intOf i).toNat)
  case atStart => exact ⟨0, Nat.zero_le _, rfl, Below.refl _ _⟩
  case round =>
    obtain ⟨k, hk, rfl, hB⟩ := hrel
    by_cases hlt : k < len
    · obtain ⟨b, off, rfl, hbs, hcell⟩ := hc (by omega)
      obtain ⟨b', off', rfl, hbs', hcell'⟩ := hc' (by omega)
      have m1 : EvAt wr b (off + k * 4) (D k) := (hcell k hlt).grow hbs hB
      have m2 : EvAt wr b' (off' + k * 4) (D k) := (hcell' k hlt).grow hbs' hB
      have hltI : (k : Int) < (len : Int) := by omega
      obtain ⟨c0, c1, c2, c3⟩ := m1
      obtain ⟨d0, d1, d2, d3⟩ := m2
      have hq := neqE (D k) (D k)
      have hg := fun x y => guardE .neq x y (D k) (D k)
      rw [Ev.same_refl] at hq
      clear hcell hcell' hc hc'
      go_wp2
      go_quiet (fail)
      go_wp2
      go_roundw
      case rel => exact ⟨k + 1, by omega, by go_num, below_drewN hB _⟩
      case measure => simp [Go.RowKit.intOf]; omega
    · have hke : k = len := by omega
      subst hke
      clear hc hc'
      go_wp2
      go_ret
      exact ⟨rfl, hB⟩
theorem same_any (base base' : Nat) (v v' : Value) (L : List Ev) (w : World) (h : OwnV w base v L) (h' : OwnV w base' v' L) :
    Calls Try.prog 10 #[v, v'] w fun e w' => e = .returned (.bool true) ∧ Below w.heap.size w w' := by
  obtain ⟨a, cap, rfl, hI⟩ := h.evs
  obtain ⟨a', cap', rfl, hI'⟩ := h'.evs
  exact same_evs _ _ _ _ _ _ _ hI hI'


theorem results_3t {P : Program} {fn : Func} {u v x : Tmp} (h : fn.results = #[.tmp u, .tmp v, .tmp x]) (tmps : Array Value) (w : World) :
    (results fn tmps).run P w = .ok (.tuple #[tmps.getD u undef, tmps.getD v undef, tmps.getD x undef]) w := by
  simp only [results, h]
  simp

set_option maxRecDepth 10000 in
set_option maxHeartbeats 4000000 in
theorem drawDeleted_any {a : Option Addr} {len cap : Nat} {Z : Nat → Int} (W : World) (hU : IsU8 W a len cap Z) :
    Calls Try.prog 7 #[.slice a len cap] W fun e w' => ∃ v A author z, e = .returned (.tuple #[v, .int .i64 author, .int .i64 z]) ∧ OwnV w' W.heap.size v A ∧ Good A ∧ Below W.heap.size W w' := by
  go_enter Try.func7, Try.ntmps7
  go_wp2_with fail
  refine (open_any a len cap W).mono ?_
  rintro e w1 ⟨rfl, hD1⟩
  go_wp2_with fail
  refine (seq_any hU w1 hD1).mono ?_
  rintro e w2 ⟨v, A, rfl, hO2, hG, hs, hD2, hM2⟩
  have HR : Hid (W.heap.size < w1.heap.size) := hD1.lt
  have HG : Hid (Good A ∧ seqB (gD A) A.length = true) := ⟨hG, hs⟩
  have HX2 : Hid (OwnV w2 w1.heap.size v A ∧ Draw W a len cap W.heap.size w2) := ⟨hO2, hD2⟩
  clear hD1 hO2 hG hs hD2 hM2
  go_wp2_with fail
  refine (once_any hU 8 (by omega) (by omega) w2 HX2.out.2).mono ?_
  rintro e w3 ⟨on, rfl, hD3, hM3⟩
  have HX3 : Hid (OwnV w3 w1.heap.size v A ∧ Draw W a len cap W.heap.size w3) := ⟨HX2.out.1.mut hM3 HR.out, hD3⟩
  clear hD3 hM3 HX2
  cases on with
  | true =>
    go_wp2_with fail
    refine (off19_any hU w3 HX3.out.2).mono ?_
    rintro e w4 ⟨au, _, _, rfl, hD4, hM4⟩
    have HX4 : Hid (OwnV w4 w1.heap.size v A ∧ Draw W a len cap W.heap.size w4) := ⟨HX3.out.1.mut hM4 HR.out, hD4⟩
    clear hD4 hM4 HX3
    go_wp2_with fail
    refine (off03_any hU w4 HX4.out.2).mono ?_
    rintro e w5 ⟨z, _, _, rfl, hD5, hM5⟩
    have HX5 : Hid (OwnV w5 w1.heap.size v A ∧ Draw W a len cap W.heap.size w5) := ⟨HX4.out.1.mut hM5 HR.out, hD5⟩
    clear hD5 hM5 HX4
    go_wp2
    refine bodyPost_ret (results_3t (u := 2) (v := 3) (x := 4) rfl _ _) rfl ?_
    exact ⟨_, A, _, _, rfl, HX5.out.1.base (Nat.le_of_lt HR.out), HG.out.1, HX5.out.2.bel⟩
  | false =>
    obtain ⟨va, vc, hv, _⟩ := HX3.out.1.evs
    subst hv
    go_wp2_with fail
    refine (below_any hU 4 (by omega) (by omega) w3 HX3.out.2).mono ?_
    rintro e w4 ⟨y4, h40, h41, rfl, hD4, hM4⟩
    have HX4 : Hid (OwnV w4 w1.heap.size (.slice va A.length vc) A ∧ Draw W a len cap W.heap.size w4) := ⟨HX3.out.1.mut hM4 HR.out, hD4⟩
    clear hD4 hM4 HX3
    have HIE : Hid (IsEvs w4 va A.length vc (gD A)) := by
      obtain ⟨va', vc', e, hE'⟩ := HX4.out.1.evs
      simp only [Value.slice.injEq, true_and] at e
      obtain ⟨rfl, rfl⟩ := e
      exact hE'
    go_wp2_with fail
    refine (l10Ids_any va A.length vc (gD A) w4 HIE.out HG.out.2).mono ?_
    rintro e w5 ⟨vi, rfl, hO5, hB5⟩
    obtain ⟨L, hL⟩ : ∃ L, L = idsL (gD A) A.length := ⟨_, rfl⟩
    have hL40 : L.length ≤ 40 := by rw [hL, ← idsR_yes HG.out.2]; exact idsR_len _ _
    rw [← hL] at hO5
    obtain ⟨vb, vd, rfl⟩ := hO5.slice
    obtain ⟨m, hm⟩ : ∃ m, m = L.length := ⟨_, rfl⟩
    rw [← hm] at hL40 ⊢
    have HX5 : Hid (OwnV w5 w1.heap.size (.slice va A.length vc) A ∧ Draw W a len cap W.heap.size w5) := ⟨HX4.out.1.below hB5, HX4.out.2.below hB5⟩
    clear hO5 hB5 hL hm HX4 HIE
    go_wp2_with fail
    refine (belowN_any hU (m + 1) (by omega) (by omega) w5 HX5.out.2).mono ?_
    rintro e w6 ⟨z, hz, rfl, hD6, hM6⟩
    have HX6 : Hid (OwnV w6 w1.heap.size (.slice va A.length vc) A ∧ Draw W a len cap W.heap.size w6) := ⟨HX5.out.1.mut hM6 HR.out, hD6⟩
    clear hD6 hM6 HX5
    go_wp2
    refine bodyPost_ret (results_3t (u := 2) (v := 3) (x := 4) rfl _ _) rfl ?_
    exact ⟨_, A, _, _, rfl, HX6.out.1.base (Nat.le_of_lt HR.out), HG.out.1, HX6.out.2.bel⟩
end Go.Proofs.Ytpjeccnhgoegkaa
