/-
  The statement FnExactTermOkSaid: at every slice of nodes the law returns true, and the slice reads afterwards as it read before. No condition.
-/
import Derived.Test.YtpkfehbahpjaiaaSpecOk
import Derived.Test.YtpkfehbahpjaiaaRows
import Derived.ProofKit
import Derived.OpenShut
import Derived.ShutString
import Derived.ChangeOld
namespace Go.Proofs.Ytpkfehbahpjaiaa
open Go.ChangeShapes Go.WideShapes Go.ChangeAt Go.RowKit Go.Deep
set_option linter.unusedVariables false

theorem own : ownKnob Try.prog.godebug = none := by kernel_rfl
theorem laidOut : laidOutB Try.prog = true := by kernel_rfl
theorem cells2 : Try.prog.cellsOf 2 = 1 := by kernel_rfl
theorem cells61 : Try.prog.cellsOf 61 = 4 := by kernel_rfl

theorem list4 {α : Type} {l : List α} (h : l.length = 4) : ∃ a b c d, l = [a, b, c, d] := by
  match l, h with
  | [a, b, c, d], _ => exact ⟨a, b, c, d, rfl⟩

/-- a slice of nodes that came in reads as nodes -/
theorem open_nodes {H : Type} {enc : TypeId × Value → H} {W : World} {n : Nat} {v : Value} {x : DataW H × List MemPlace} (h : DataW.trod enc Try.prog W 0 (fun _ => true) true n 22 [v] = some x) :
    ∃ a len cap Kd N A B, v = .slice a len cap ∧ IsNodes W a len cap Kd N A B := by
  rcases open_slice Try.underlying22 h with ⟨hcs, _⟩ | ⟨a, len, cap, m, n', D, Pl, hcs, _, hl, hm, hmm, _, hall⟩
  · simp at hcs
    exact ⟨none, 0, 0, fun _ => 0, fun _ => 0, fun _ => 0, fun _ => 0, hcs, Nat.le_refl _, by omega, fun h => absurd h (by omega)⟩
  · simp at hcs hmm
    subst hmm
    rw [cells61] at hall
    have key : ∀ i, i < len → ∃ q : Int × Int × Int × Int, W.cell? (a.add (i * 4)) = some (.int .i64 q.1) ∧ W.cell? (a.add (i * 4 + 1)) = some (.int .i64 q.2.1) ∧ W.cell? (a.add (i * 4 + 2)) = some (.int .i64 q.2.2.1) ∧ W.cell? (a.add (i * 4 + 3)) = some (.int .i64 q.2.2.2) := by
      intro i hi
      obtain ⟨cs', h1, h2⟩ := hall i (by omega)
      obtain ⟨_, hlen, hcell⟩ := World.cells?_some h1
      obtain ⟨xs, k, hk, hxy, _, hxl, hf⟩ := DataW.trod_struct Try.underlying61 h2
      have e0 := hcell 0 (by omega)
      have e1 := hcell 1 (by omega)
      have e2 := hcell 2 (by omega)
      have e3 := hcell 3 (by omega)
      rw [add_add] at e0 e1 e2 e3
      have hl4 : cs'.length = 4 := hlen
      obtain ⟨u0, u1, u2, u3, rfl⟩ := list4 hl4
      obtain ⟨y0, y1, y2, y3, rfl⟩ := list4 (show xs.length = 4 from hxl)
      have g0 := hf 0 _ rfl
      have g1 := hf 1 _ rfl
      have g2 := hf 2 _ rfl
      have g3 := hf 3 _ rfl
      simp [cells2] at g0 g1 g2 g3
      obtain ⟨z0, q0, _⟩ := DataW.trod_int Try.underlying2 g0
      obtain ⟨z1, q1, _⟩ := DataW.trod_int Try.underlying2 g1
      obtain ⟨z2, q2, _⟩ := DataW.trod_int Try.underlying2 g2
      obtain ⟨z3, q3, _⟩ := DataW.trod_int Try.underlying2 g3
      simp at q0 q1 q2 q3
      subst q0 q1 q2 q3
      exact ⟨(z0, z1, z2, z3), by simpa using e0, by simpa using e1, by simpa using e2, by simpa using e3⟩
    obtain ⟨q, hq⟩ := choose_lt key
    refine ⟨some a, len, _, fun i => (q i).1, fun i => (q i).2.1, fun i => (q i).2.2.1, fun i => (q i).2.2.2, hcs, hl, by unfold maxLen at hm; omega, fun hp => ?_⟩
    obtain ⟨b, off, spot⟩ := a
    have hc0 := (hq 0 hp).1
    have hspot : spot = none := by simpa [Addr.add] using World.cell?_spot hc0
    subst hspot
    refine ⟨b, off, rfl, ?_, fun i hi => ?_⟩
    · rw [add_plain] at hc0; exact cell_lt hc0
    · obtain ⟨h1, h2, h3, h4⟩ := hq i hi
      rw [add_plain] at h1 h2 h3 h4
      exact ⟨h1, h2, h3, h4⟩

set_option maxHeartbeats 400000 in
theorem termOk_walk (a : Option Addr) (len cap : Nat) (Kd N A B : Nat → Int) (w : World) (h : IsNodes w a len cap Kd N A B) :
    Calls Try.prog 3 #[.slice a len cap] w fun e w' => e = .returned (.bool true) ∧ Below w.heap.size w w' := by
  have hcap : len ≤ 9223372036854775807 := by have := h.1; have := h.2.1; omega
  go_enter Try.func3, Try.ntmps3
  go_wp2_with fail
  refine (szTNodeS_any a len cap _ hcap).mono ?_
  rintro e w1 ⟨r, rfl, hr, hw1⟩
  subst hw1
  rcases hr with hr | ⟨hr, hl⟩
  · go_wp2
    go_ret
    exact ⟨rfl, Below.refl _ _⟩
  go_wp2_with fail
  refine (toTNodeS_any a len cap Kd N A B _ h hl).mono ?_
  rintro e w2 ⟨g2, rfl, h2, hB2⟩
  go_wp2_with fail
  refine (specTermOk_any _ _ _ _ h2).mono ?_
  rintro e w3 ⟨rfl, hB3⟩
  have hB13 := hB2.trans (hB3.mono hB2.size)
  have h13 := h.below hB13
  go_wp2_with fail
  refine (toTNodeS_any a len cap Kd N A B _ h13 hl).mono ?_
  rintro e w4 ⟨g4, rfl, h4, hB4⟩
  go_wp2_with fail
  refine (implTermOk_any _ _ _ _ h4).mono ?_
  rintro e w5 ⟨rfl, hB5⟩
  have h5 := h4.below hB5
  have hB35 : Below w3.heap.size w3 w5 := hB4.trans (hB5.mono hB4.size)
  have h15 := h13.below hB35
  generalize sOk Kd N A B len = x
  have hx : (x != x) = false := by simp
  go_wp2_with fail
  refine (toTNodeS_any a len cap Kd N A B _ h15 hl).mono ?_
  rintro e w6 ⟨g6, rfl, h6, hB6⟩
  go_wp2_with fail
  refine (eqTNodeS_same _ _ _ _ _ Kd N A B _ (h5.below hB6) h6).mono ?_
  rintro e w7 ⟨rfl, hB7⟩
  go_wp2
  go_ret
  refine ⟨rfl, ?_⟩
  have b5 := hB13.trans (hB35.mono hB13.size)
  have b6 := b5.trans (hB6.mono b5.size)
  exact b6.trans (hB7.mono b6.size)

set_option maxRecDepth 100000 in
theorem termOk_lifted (os : Os) (started : os.Started) (H : Type) (enc : TypeId × Value → H) :
    ReturnsInHanded {} Try.checked os 3 .any (Rows.fnExactTermOkSpec.pre6 enc Try.prog Try.f3 Rows.fnExactTermOkRow.domain false) (Rows.fnExactTermOkSpec.post enc Try.prog Try.f3 false true false false) := by
  refine returnsInHanded_of_change (C := Try.checked) own started (by kernel_rfl) Try.func3
    (ChangeSpec.witness6 (enc := enc) (C := Try.checked) false ⟨#[], #[.slice none 0 0], []⟩ 8 (by kernel_rfl) (by kernel_rfl) (by kernel_rfl) (by kernel_rfl)) ?_
  intro W base args ds gs before hval0 hW hcnd _
  have hval : ∀ (j : Nat) t v, Try.f3.params[j]? = some t → args[j]? = some v → Value.okWide Try.prog W .any base t v := hval0
  have hW' := hW
  obtain ⟨p, q, hA0, hV, rfl, hfz, hnd⟩ := hW
  have hA : DataW.TrodAll enc Try.prog W 0 (fun _ => true) true Try.f3.params.toList args.toList ds p := hA0
  rw [Try.params3] at hA hval
  obtain ⟨v0, vs0, d0, ds0, p0, q0, hargs, rfl, rfl, h0, r0⟩ := trodAll_cons hA
  obtain ⟨rfl, rfl, rfl⟩ := trodAll_nil r0
  obtain rfl : args = #[v0] := by cases args; simp_all
  obtain ⟨rfl, rfl⟩ := trodVars_none hV
  obtain ⟨a0, len0, cap0, rfl⟩ := okWide_slice Try.underlying22 (hval 0 22 v0 rfl rfl)
  have k0 := h0
  have lt0 : ∀ x ∈ p0, x.block < W.heap.size := by obtain ⟨m, hm⟩ := k0; exact DataW.trod_lt m _ _ _ hm
  obtain ⟨Kd, N, A, B, w0⟩ : ∃ Kd N A B, IsNodes W a0 len0 cap0 Kd N A B := by
    obtain ⟨fuel, hf⟩ := h0
    obtain ⟨a, len, cap, Kd, N, A, B, e, hI⟩ := open_nodes (by simpa [Value.cells] using hf)
    simp at e
    obtain ⟨rfl, rfl, rfl⟩ := e
    exact ⟨Kd, N, A, B, hI⟩
  clear hA0 hval0
  refine (termOk_walk a0 len0 cap0 Kd N A B W w0).mono fun e W' ⟨he, bel⟩ => ?_
  subst he
  exact ⟨_, rfl, _, _, _, [], _, [], hW', trodAll_mk1 (shut_bool Try.underlying4 _), (trodAll_cons_mk (Below.trod laidOut (by kernel_rfl) (of_decide_eq_true (by kernel_rfl)) k0 bel lt0) trodAll_mk0), rfl, bel.frame _, fun h => by cases h⟩

theorem termOk_over : Rows.fnExactTermOkRow.holds Try.pinned (OpenSpec.ofChange Rows.fnExactTermOkSpec) :=
  OpenClaim.holds_of_wide 3 Try.f3 rfl rfl rfl rfl rfl rfl rfl ⟨rfl, rfl, rfl, rfl, rfl⟩ rfl rfl rfl rfl rfl (by kernel_rfl) Try.func3 (by kernel_rfl)
    (of_decide_eq_true (by kernel_rfl)) (by unfold Func.isWrapper; first | (rw [if_pos (by decide +kernel)]; kernel_rfl) | (rw [if_neg (by decide +kernel)]; exact ⟨rfl, rfl⟩))
    (fun os started H enc _ => termOk_lifted os started H enc)

theorem termOk_proved : Rows.FnExactTermOkSaid := termOk_over
#print axioms termOk_proved
end Go.Proofs.Ytpkfehbahpjaiaa
