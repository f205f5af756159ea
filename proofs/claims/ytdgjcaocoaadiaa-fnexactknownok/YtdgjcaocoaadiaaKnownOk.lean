/-
  The statement FnExactKnownOkSaid: at every slice of texts the law returns true, and the slice reads afterwards as it read before. No condition.
-/
import Derived.Test.YtdgjcaocoaadiaaKnownI
import Derived.Test.YtdgjcaocoaadiaaRows
import Derived.ProofKit
import Derived.OpenShut
import Derived.ShutString
import Derived.ChangeOld
namespace Go.Proofs.Ytdgjcaocoaadiaa
open Go.ChangeShapes Go.WideShapes Go.ChangeAt Go.RowKit Go.Deep
set_option linter.unusedVariables false

theorem own : ownKnob Try.prog.godebug = none := by kernel_rfl
theorem laidOut : laidOutB Try.prog = true := by kernel_rfl
theorem cells9 : Try.prog.cellsOf 9 = 1 := by kernel_rfl

/-- a slice of texts that came in reads as texts -/
theorem open_strs {H : Type} {enc : TypeId × Value → H} {W : World} {n : Nat} {v : Value} {x : DataW H × List MemPlace} (h : DataW.trod enc Try.prog W 0 (fun _ => true) true n 22 [v] = some x) :
    ∃ a len cap S, v = .slice a len cap ∧ IsStrs W a len cap S ∧ ∀ i, i < len → (S i).size ≤ 9223372036854775807 := by
  rcases open_slice Try.underlying22 h with ⟨hcs, _⟩ | ⟨a, len, cap, m, n', D, Pl, hcs, _, hl, hm, hmm, _, hall⟩
  · simp at hcs
    exact ⟨none, 0, 0, fun _ => ⟨#[]⟩, hcs, ⟨Nat.le_refl _, by omega, fun h => absurd h (by omega)⟩, fun i h => absurd h (by omega)⟩
  · simp at hcs hmm
    subst hmm
    rw [cells9] at hall
    have key : ∀ i, i < len → ∃ s : ByteArray, W.cell? (a.add (i * 1)) = some (.string s) ∧ s.size ≤ 9223372036854775807 := by
      intro i hi
      obtain ⟨cs', h1, h2⟩ := hall i (by omega)
      obtain ⟨_, hlen, hcell⟩ := World.cells?_some h1
      obtain ⟨s, rfl, _, hs⟩ := DataW.trod_string Try.underlying9 h2
      have e0 := hcell 0 (by omega)
      rw [add_add] at e0
      exact ⟨s, by simpa using e0, by unfold maxLen at hs; omega⟩
    obtain ⟨q, hq⟩ := choose_lt key
    refine ⟨some a, len, _, q, hcs, ⟨hl, by unfold maxLen at hm; omega, fun hp => ?_⟩, fun i hi => (hq i hi).2⟩
    obtain ⟨b, off, spot⟩ := a
    have hc0 := (hq 0 hp).1
    have hspot : spot = none := by simpa [Addr.add] using World.cell?_spot hc0
    subst hspot
    refine ⟨b, off, rfl, ?_, fun i hi => ?_⟩
    · rw [add_plain] at hc0; exact cell_lt hc0
    · have h1 := (hq i hi).1
      rw [add_plain, Nat.mul_one] at h1
      exact h1

set_option maxHeartbeats 400000 in
theorem knownOk_walk (a : Option Addr) (len cap : Nat) (S : Nat → ByteArray) (w : World) (h : IsStrs w a len cap S) (hS : ∀ i, i < len → (S i).size ≤ 9223372036854775807) :
    Calls Try.prog 3 #[.slice a len cap] w fun e w' => e = .returned (.bool true) ∧ Below w.heap.size w w' := by
  go_enter Try.func3, Try.ntmps3
  go_wp2_with fail
  refine (szStringS_any a len cap S _ h hS).mono ?_
  rintro e w1 ⟨r, rfl, hr, hw1⟩
  subst hw1
  rcases hr with hr | ⟨hr, hl, hz⟩
  · go_wp2
    go_ret
    exact ⟨rfl, Below.refl _ _⟩
  have HZ := (show Hid (∀ i, i < len → (S i).size ≤ 1048576) from hz)
  clear hS hz
  go_wp2_with fail
  refine (toStringS_any a len cap S _ h hl).mono ?_
  rintro e w2 ⟨g2, rfl, h2, hB2⟩
  go_wp2_with fail
  refine (specKnown_any _ _ _ S _ h2 HZ.out).mono ?_
  rintro e w3 ⟨rfl, hB3⟩
  have hB13 := hB2.trans (hB3.mono hB2.size)
  have h13 := h.below hB13
  go_wp2_with fail
  refine (toStringS_any a len cap S _ h13 hl).mono ?_
  rintro e w4 ⟨g4, rfl, h4, hB4⟩
  go_wp2_with fail
  refine (implKnown_any _ _ _ S _ h4 HZ.out).mono ?_
  rintro e w5 ⟨rfl, hB5⟩
  have h5 := h4.below hB5
  have hB35 : Below w3.heap.size w3 w5 := hB4.trans (hB5.mono hB4.size)
  have h15 := h13.below hB35
  generalize knownB S len = x
  have hx : (x != x) = false := by simp
  go_wp2_with fail
  refine (toStringS_any a len cap S _ h15 hl).mono ?_
  rintro e w6 ⟨g6, rfl, h6, hB6⟩
  go_wp2_with fail
  refine (eqStringS_same _ _ _ _ _ S _ (h5.below hB6) h6).mono ?_
  rintro e w7 ⟨rfl, hB7⟩
  go_wp2
  go_ret
  refine ⟨rfl, ?_⟩
  have b5 := hB13.trans (hB35.mono hB13.size)
  have b6 := b5.trans (hB6.mono b5.size)
  exact b6.trans (hB7.mono b6.size)

set_option maxRecDepth 100000 in
theorem knownOk_lifted (os : Os) (started : os.Started) (H : Type) (enc : TypeId × Value → H) :
    ReturnsInHanded {} Try.checked os 3 .any (Rows.fnExactKnownOkSpec.pre6 enc Try.prog Try.f3 Rows.fnExactKnownOkRow.domain false) (Rows.fnExactKnownOkSpec.post enc Try.prog Try.f3 false true false false) := by
  refine returnsInHanded_of_change (C := Try.checked) own started (by kernel_rfl) Try.func3
    (ChangeSpec.witness6 (enc := enc) (C := Try.checked) false ⟨#[], #[.slice none 0 0], []⟩ 8 (by kernel_rfl) (by kernel_rfl) (by kernel_rfl) (by kernel_rfl)) ?_
  intro W base args ds gs before hval0 hW hcnd _
  have hval : ∀ (j : Nat) t v, Try.f3.params[j]? = some t → args[j]? = some v → Value.okWide Try.prog W .any base t v := hval0
  have hW' := hW
  obtain ⟨p, q, hA0, hV, rfl, hfz, hnd⟩ := hW
  have hA : DataW.TrodAll enc Try.prog W 0 (fun _ => true) true Try.f3.params.toList args.toList ds p := hA0
  rw [Try.params3] at hA hval
  obtain ⟨v0, vs0, d0, ds0, p0, q0, hargs, rfl, rfl, h0, r0⟩ := trodAll_cons hA
  obtain ⟨rfl, rfl, rfl⟩ := trodAll_nil r0
  obtain rfl : args = #[v0] := by cases args; simp_all
  obtain ⟨rfl, rfl⟩ := trodVars_none hV
  obtain ⟨a0, len0, cap0, rfl⟩ := okWide_slice Try.underlying22 (hval 0 22 v0 rfl rfl)
  have k0 := h0
  have lt0 : ∀ x ∈ p0, x.block < W.heap.size := by obtain ⟨m, hm⟩ := k0; exact DataW.trod_lt m _ _ _ hm
  obtain ⟨S, w0, s0⟩ : ∃ S, IsStrs W a0 len0 cap0 S ∧ ∀ i, i < len0 → (S i).size ≤ 9223372036854775807 := by
    obtain ⟨fuel, hf⟩ := h0
    obtain ⟨a, len, cap, S, e, hI, hS⟩ := open_strs (by simpa [Value.cells] using hf)
    simp at e
    obtain ⟨rfl, rfl, rfl⟩ := e
    exact ⟨S, hI, hS⟩
  clear hA0 hval0
  refine (knownOk_walk a0 len0 cap0 S W w0 s0).mono fun e W' ⟨he, bel⟩ => ?_
  subst he
  exact ⟨_, rfl, _, _, _, [], _, [], hW', trodAll_mk1 (shut_bool Try.underlying4 _), (trodAll_cons_mk (Below.trod laidOut (by kernel_rfl) (of_decide_eq_true (by kernel_rfl)) k0 bel lt0) trodAll_mk0), rfl, bel.frame _, fun h => by cases h⟩

theorem knownOk_over : Rows.fnExactKnownOkRow.holds Try.pinned (OpenSpec.ofChange Rows.fnExactKnownOkSpec) :=
  OpenClaim.holds_of_wide 3 Try.f3 rfl rfl rfl rfl rfl rfl rfl ⟨rfl, rfl, rfl, rfl, rfl⟩ rfl rfl rfl rfl rfl (by kernel_rfl) Try.func3 (by kernel_rfl)
    (of_decide_eq_true (by kernel_rfl)) (by unfold Func.isWrapper; first | (rw [if_pos (by decide +kernel)]; kernel_rfl) | (rw [if_neg (by decide +kernel)]; exact ⟨rfl, rfl⟩))
    (fun os started H enc _ => knownOk_lifted os started H enc)

theorem knownOk_proved : Rows.FnExactKnownOkSaid := knownOk_over
#print axioms knownOk_proved
end Go.Proofs.Ytdgjcaocoaadiaa
