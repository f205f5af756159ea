/-
  The statement FnSeqTurnedSaid: at every code the law returns true, and the code reads afterwards as it read before. No condition.
-/
import Derived.Test.YtjfciokpnhnhbaaSqDt
import Derived.Test.YtjfciokpnhnhbaaSqPt
import Derived.Test.YtjfciokpnhnhbaaSqTi
import Derived.Test.YtjfciokpnhnhbaaSqTs
import Derived.Test.YtjfciokpnhnhbaaSqA2
import Derived.Test.YtjfciokpnhnhbaaOpenU5
import Derived.Test.YtjfciokpnhnhbaaRows
namespace Go.Proofs.Ytjfciokpnhnhbaa
open Go.ChangeShapes Go.WideShapes Go.ChangeAt Go.RowKit Go.Deep
set_option linter.unusedVariables false

set_option maxRecDepth 10000 in
set_option maxHeartbeats 8000000 in
theorem sqturn_walk {a : Option Addr} {len cap : Nat} {Z : Nat → Int} (W : World) (hU : IsU8 W a len cap Z) :
    Calls Try.prog 3 #[.slice a len cap] W fun e w' => e = .returned (.bool true) ∧ Below W.heap.size W w' := by
  go_enter Try.func3, Try.ntmps3
  go_wp2_with fail
  refine (big_any a len cap W).mono ?_
  rintro e wq ⟨rfl, hwq⟩
  rw [hwq]
  clear hwq wq
  cases hbig : decide ((1048576 : Int) < (len : Int)) with
  | true =>
    go_wp2
    go_ret
    exact ⟨rfl, Below.refl _ _⟩
  | false =>
    go_wp2_with fail
    refine (drawTurned_any W hU).mono ?_
    rintro e w1 ⟨v, A, author, t, rfl, ht100, hO1, hG, hB1⟩
    obtain ⟨g, gc, hv, hOE⟩ := hO1.lies
    obtain ⟨va, vc, hv2, hE1⟩ := hO1.evs
    rw [hv] at hv2
    simp only [Value.slice.injEq, true_and] at hv2
    obtain ⟨rfl, rfl⟩ := hv2
    subst hv
    obtain ⟨n, hn⟩ : ∃ n, n = A.length := ⟨_, rfl⟩
    have HN := (show Hid _ from hn)
    have HE : Hid (∀ w', Below w1.heap.size w1 w' → IsEvs w' (some ⟨g, 0, none⟩) n gc (gD A)) := by rw [hn]; exact fun w' hB => IsEvs.below hE1 hB
    have HB1 : Hid (Below W.heap.size W w1) := hB1
    have HG : Hid (A.length ≤ 40 ∧ ∀ i, i < n → (gD A i).in) := by rw [hn]; exact hG
    have HLO : Hid (∀ w', Below w1.heap.size w1 w' → OwnV w' W.heap.size (.slice (some ⟨g, 0, none⟩) n gc) A) := by rw [hn]; exact fun w' hB => hO1.1.below hB
    have HGA : Hid (Good A) := hG
    rw [← hn]
    clear hn hO1 hG hB1 hE1 hOE
    obtain ⟨o, ho⟩ : ∃ o, o = tuR (gD A) n author t := ⟨_, rfl⟩
    have HO := (show Hid _ from ho)
    obtain ⟨ok, hok⟩ : ∃ ok, ok = o.isSome := ⟨_, rfl⟩
    obtain ⟨B, hB⟩ : ∃ B, B = o.getD [] := ⟨_, rfl⟩
    have HK : Hid (ok = o.isSome ∧ B = o.getD []) := ⟨hok, hB⟩
    have ht : t.size ≤ 9223372036854775807 := by omega
    have HI : Hid (∀ w', Below w1.heap.size w1 w' → Calls Try.prog 9 #[.slice (some ⟨g, 0, none⟩) n gc, .int .i64 author, .string t] w' fun e w'' => ∃ v u, e = .returned (.tuple #[v, u, .bool ok]) ∧ OwnV w'' w'.heap.size v B ∧ OwnV w'' w'.heap.size u (B.drop n) ∧ Below w'.heap.size w' w'') := fun w' hB' => by
      refine (implTurned_any (some ⟨g, 0, none⟩) n gc (gD A) author t ht w' (HE.out w' hB') HG.out.2).mono ?_
      rintro e w'' ⟨v, u, h1, h2, h3, _, h5⟩
      rw [← ho, ← hok] at h1
      rw [← ho, ← hB] at h2 h3
      exact ⟨v, u, h1, h2, h3, h5⟩
    have HS : Hid (∀ w', Below w1.heap.size w1 w' → Calls Try.prog 10 #[.slice (some ⟨g, 0, none⟩) n gc, .int .i64 author, .string t] w' fun e w'' => ∃ v u, e = .returned (.tuple #[v, u, .bool ok]) ∧ OwnV w'' w'.heap.size v B ∧ OwnV w'' w'.heap.size u (B.drop n) ∧ Below w'.heap.size w' w'') := fun w' hB' => by
      refine (specTurned_any g 0 n gc (gD A) author t ht w' (HE.out w' hB') HG.out.2).mono ?_
      rintro e w'' ⟨v, u, h1, h2, h3, h5⟩
      rw [← ho, ← hok] at h1
      rw [← ho, ← hB] at h2 h3
      exact ⟨v, u, h1, h2, h3, h5⟩
    clear ho hok hB
    have hokn : (ok != ok) = false := by simp
    have hoke : (ok == ok) = true := by simp
    go_wp2_with fail
    refine (HI.out w1 (Below.refl _ _)).mono ?_
    rintro e w2 ⟨vm, vo, rfl, hm2, ho2, hB2⟩
    have HB2 : Hid (Below w1.heap.size w1 w2) := hB2
    have HM2 : Hid (OwnV w2 w1.heap.size vm B ∧ OwnV w2 w1.heap.size vo (B.drop n)) := ⟨hm2, ho2⟩
    clear hm2 ho2 hB2
    go_wp2_with fail
    refine (HS.out w2 HB2.out).mono ?_
    rintro e w3 ⟨vs, vt, rfl, hs3, ht3, hB3⟩
    have HB3 : Hid (Below w1.heap.size w1 w3) := HB2.out.trans (hB3.mono HB2.out.size)
    have HM3 : Hid (OwnV w3 w1.heap.size vm B ∧ OwnV w3 w1.heap.size vo (B.drop n) ∧ OwnV w3 w2.heap.size vs B ∧ OwnV w3 w2.heap.size vt (B.drop n)) := ⟨HM2.out.1.below hB3, HM2.out.2.below hB3, hs3, ht3⟩
    clear hs3 ht3 hB3 HB2 HM2
    go_wp2_with fail
    refine (same_any _ _ _ _ _ w3 HM3.out.1 HM3.out.2.2.1).mono ?_
    rintro e w4 ⟨rfl, hB4⟩
    have HB4 : Hid (Below w1.heap.size w1 w4) := HB3.out.trans (hB4.mono HB3.out.size)
    have HM4 : Hid (OwnV w4 w1.heap.size vm B ∧ OwnV w4 w1.heap.size vo (B.drop n) ∧ OwnV w4 w2.heap.size vs B ∧ OwnV w4 w2.heap.size vt (B.drop n)) := ⟨HM3.out.1.below hB4, HM3.out.2.1.below hB4, HM3.out.2.2.1.below hB4, HM3.out.2.2.2.below hB4⟩
    clear hB4 HB3 HM3
    go_wp2_with fail
    refine (same_any _ _ _ _ _ w4 HM4.out.2.1 HM4.out.2.2.2).mono ?_
    rintro e w5 ⟨rfl, hB5⟩
    have HB5 : Hid (Below w1.heap.size w1 w5) := HB4.out.trans (hB5.mono HB4.out.size)
    have HM5 : Hid (OwnV w5 w1.heap.size vm B ∧ OwnV w5 w1.heap.size vo (B.drop n) ∧ OwnV w5 w2.heap.size vs B ∧ OwnV w5 w2.heap.size vt (B.drop n)) := ⟨HM4.out.1.below hB5, HM4.out.2.1.below hB5, HM4.out.2.2.1.below hB5, HM4.out.2.2.2.below hB5⟩
    clear hB5 HB4 HM4
    cases ok with
    | false =>
      go_wp2_with fail
      refine (same_any _ _ _ _ _ w5 HM5.out.1 HM5.out.2.2.1).mono ?_
      rintro e w6 ⟨rfl, hB6⟩
      have HB6 : Hid (Below w1.heap.size w1 w6) := HB5.out.trans (hB6.mono HB5.out.size)
      have HM6 : Hid (OwnV w6 w1.heap.size vo (B.drop n) ∧ OwnV w6 w2.heap.size vt (B.drop n)) := ⟨HM5.out.2.1.below hB6, HM5.out.2.2.2.below hB6⟩
      clear hB6 HB5 HM5
      go_wp2_with fail
      refine (same_any _ _ _ _ _ w6 HM6.out.1 HM6.out.2).mono ?_
      rintro e w7 ⟨rfl, hB7⟩
      have HB7 : Hid (Below W.heap.size W w7) := HB1.out.trans ((HB6.out.trans (hB7.mono HB6.out.size)).mono HB1.out.size)
      clear hB7 HB6 HM6
      go_wp2
      go_ret
      exact ⟨rfl, HB7.out⟩
    | true =>
      have HT : Hid (okA B ∧ txt B = t ∧ (∃ C, B = A ++ C) ∧ (txt A = t → B = A)) := by
        obtain ⟨k1, k2⟩ := HK.out
        cases ho : o with
        | none => rw [ho] at k1; cases k1
        | some B' =>
          rw [ho] at k2
          have k3 := HO.out
          rw [ho, HN.out] at k3
          have : B = B' := k2
          rw [this]
          exact tu_text k3.symm
      obtain ⟨i0, hi, hz0, hz1, hz2⟩ := info_parts infoE
      obtain ⟨mb, mc, hvm, hEm⟩ := HM5.out.1.evs
      have HCC : Hid (B = A ++ B.drop n) := by
        obtain ⟨C, hC⟩ := HT.out.2.2.1
        show _ = _
        rw [hC, HN.out, List.drop_left]
      have HIB : Hid (B.length ≤ 40 ∧ ∀ i, i < B.length → (gD B i).in) := by
        obtain ⟨k1, k2⟩ := HK.out
        cases ho : o with
        | none => rw [ho] at k1; cases k1
        | some B' =>
          rw [ho] at k2
          have k3 := HO.out
          rw [ho, HN.out] at k3
          have : B = B' := k2
          rw [this]
          exact tu_good HGA.out ht100 k3.symm
      have HTB : Hid (textR (gD B) B.length = t) := HT.out.2.1
      have HEM : Hid (∀ w', Below w5.heap.size w5 w' → IsEvs w' mb B.length mc (gD B)) := fun w' hB => IsEvs.below hEm hB
      subst hvm
      have htt : (t.toList == t.toList) = true := by simp
      have hn40 : n ≤ 40 := by rw [HN.out]; exact HG.out.1
      obtain ⟨s, hs⟩ : ∃ s, s = textR (gD A) n := ⟨_, rfl⟩
      have HSS : Hid (s = t → B.drop n = []) := fun e => by
        have h1 := HT.out.2.2.2 (by unfold txt; rw [← HN.out, ← hs]; exact e)
        rw [h1, HN.out, List.drop_length]
      have HSR := (show Hid _ from hs)
      clear hEm hs hokn hoke
      obtain ⟨nb, nc, hvo, _⟩ := HM5.out.2.1.evs
      obtain ⟨k, hk⟩ : ∃ k, k = (B.drop n).length := ⟨_, rfl⟩
      have HKK := (show Hid _ from hk)
      rw [← hk] at hvo
      clear hk
      subst hvo
      go_wp2_with fail
      refine (implText_any mb B.length mc (gD B) w5 (HEM.out w5 (Below.refl _ _)) HIB.out.2).mono ?_
      rintro e w6 ⟨rfl, hB6⟩
      rw [HTB.out]
      have HB6 : Hid (Below w1.heap.size w1 w6) := HB5.out.trans (hB6.mono HB5.out.size)
      have HM6 : Hid (OwnV w6 w1.heap.size (.slice mb B.length mc) B ∧ OwnV w6 w1.heap.size (.slice nb k nc) (B.drop n)) := ⟨HM5.out.1.below hB6, HM5.out.2.1.below hB6⟩
      clear hB6 HB5 HM5
      have HA6 : Hid (Below w6.heap.size w6 (w6.alloc (.cells #[] 36))) := (Below.refl _ _).alloc (Nat.le_refl _) _
      have hl1 : ([] : List Ev).length + A.length ≤ 1000 := by have := HG.out.1; simp; omega
      have hl2 : A.length + (B.drop n).length ≤ 1000 := by have := HG.out.1; have := HIB.out.1; rw [List.length_drop]; omega
      have hsz : w6.heap.size ≤ (w6.alloc (.cells #[] 36)).heap.size := HA6.out.size
      go_wp2_with (first
        | (at_builtin
           refine wpList_app2 rfl _ _ rfl w6.heap.size W.heap.size (.slice (some ⟨w6.heap.size, 0, none⟩) 0 0) (.slice (some ⟨g, 0, none⟩) n gc) [] A rfl rfl (World.ownsRow_made w6 #[] 0 (Nat.le_refl _) (by decide) rfl) (HLO.out _ (HB6.out.trans (HA6.out.mono HB6.out.size))) hl1 hsz ?_
           intro v7 w7 hown7 hgrow7
           have HB7 : Hid (Below w6.heap.size w6 w7) := HA6.out.grown hgrow7 hsz (fun x hx => by have hx' : some w6.heap.size = some x := hx; cases hx'; exact Nat.le_refl _)
           have HO7 : Hid (OwnV w7 w6.heap.size v7 A) := hown7
           clear hown7 hgrow7)
        | (at_builtin
           refine wpList_app2 rfl _ _ rfl w6.heap.size w1.heap.size v7 (.slice nb k nc) A (B.drop n) rfl rfl HO7.out (HM6.out.2.below HB7.out) hl2 HB7.out.size ?_
           intro v8 w8 hown8 hgrow8
           have HB8 : Hid (Below w6.heap.size w6 w8) := HB7.out.grown hgrow8 HB7.out.size (fun x hx => (World.ownsRow.lt HO7.out x hx).1)
           have HO8 : Hid (OwnV w8 w6.heap.size v8 B) := by rw [HCC.out]; exact hown8
           clear hown8 hgrow8))
      refine (same_any _ _ _ _ _ w8 (HM6.out.1.below HB8.out) HO8.out).mono ?_
      rintro e w9 ⟨rfl, hB9⟩
      have HB9 : Hid (Below w1.heap.size w1 w9) := HB6.out.trans ((HB8.out.trans (hB9.mono HB8.out.size)).mono HB6.out.size)
      clear hB9
      go_wp2_with fail
      refine (implText_any (some ⟨g, 0, none⟩) n gc (gD A) w9 (HE.out w9 HB9.out) HG.out.2).mono ?_
      rintro e w10 ⟨rfl, hB10⟩
      rw [← HSR.out]
      have HB10 : Hid (Below W.heap.size W w10) := HB1.out.trans ((HB9.out.trans (hB10.mono HB9.out.size)).mono HB1.out.size)
      clear hB10
      cases hst : (s.toList == t.toList) with
      | false =>
        have hst2 : (s.toList != t.toList) = true := by rw [bne, hst]; rfl
        go_wp2
        go_ret
        exact ⟨rfl, HB10.out⟩
      | true =>
        have hst2 : (s.toList != t.toList) = false := by rw [bne, hst]; rfl
        obtain rfl : k = 0 := by
          rw [HKK.out, HSS.out (ByteArray.ext (Array.ext' (by simpa [ByteArray.toList_eq] using hst)))]
          rfl
        go_wp2
        go_ret
        exact ⟨rfl, HB10.out⟩

set_option maxRecDepth 100000 in
theorem sqturn_lifted (os : Os) (started : os.Started) (H : Type) (enc : TypeId × Value → H) :
    ReturnsInHanded {} Try.checked os 3 .any (Rows.fnSeqTurnedSpec.pre6 enc Try.prog Try.f3 Rows.fnSeqTurnedRow.domain false) (Rows.fnSeqTurnedSpec.post enc Try.prog Try.f3 false true false false) := by
  refine returnsInHanded_of_change (C := Try.checked) own started (by kernel_rfl) Try.func3
    (ChangeSpec.witness6 (enc := enc) (C := Try.checked) false ⟨#[], #[.slice none 0 0], []⟩ 8 (by kernel_rfl) (by kernel_rfl) (by kernel_rfl) (by kernel_rfl)) ?_
  intro W base args ds gs before hval0 hW hcnd _
  have hval : ∀ (j : Nat) t v, Try.f3.params[j]? = some t → args[j]? = some v → Value.okWide Try.prog W .any base t v := hval0
  have hW' := hW
  obtain ⟨p, q, hA0, hV, rfl, hfz, hnd⟩ := hW
  have hA : DataW.TrodAll enc Try.prog W 0 (fun _ => true) true Try.f3.params.toList args.toList ds p := hA0
  rw [Try.params3] at hA hval
  obtain ⟨v0, vs0, d0, ds0, p0, q0, hargs, rfl, rfl, h0, r0⟩ := trodAll_cons hA
  obtain ⟨rfl, rfl, rfl⟩ := trodAll_nil r0
  obtain rfl : args = #[v0] := by cases args; simp_all
  obtain ⟨rfl, rfl⟩ := trodVars_none hV
  obtain ⟨a0, len0, cap0, rfl⟩ := okWide_slice Try.underlying22 (hval 0 22 v0 rfl rfl)
  have k0 := h0
  have lt0 : ∀ x ∈ p0, x.block < W.heap.size := by obtain ⟨m, hm⟩ := k0; exact DataW.trod_lt m _ _ _ hm
  obtain ⟨Z, w0⟩ : ∃ Z, IsU8 W a0 len0 cap0 Z := by
    obtain ⟨fuel, hf⟩ := h0
    obtain ⟨a, len, cap, Z, e, hI⟩ := open_u8 (by simpa [Value.cells] using hf)
    simp at e
    obtain ⟨rfl, rfl, rfl⟩ := e
    exact ⟨Z, hI⟩
  clear hA0 hval0
  refine (sqturn_walk W w0).mono fun e W' ⟨he, bel⟩ => ?_
  subst he
  exact ⟨_, rfl, _, _, _, [], _, [], hW', trodAll_mk1 (shut_bool Try.underlying4 _), (trodAll_cons_mk (Below.trod laidOut (by kernel_rfl) (of_decide_eq_true (by kernel_rfl)) k0 bel lt0) trodAll_mk0), rfl, bel.frame _, fun h => by cases h⟩

theorem sqturn_proved : Rows.FnSeqTurnedSaid :=
  OpenClaim.holds_of_wide 3 Try.f3 rfl rfl rfl rfl rfl rfl rfl ⟨rfl, rfl, rfl, rfl, rfl⟩ rfl rfl rfl rfl rfl (by kernel_rfl) Try.func3 (by kernel_rfl)
    (of_decide_eq_true (by kernel_rfl)) (by unfold Func.isWrapper; first | (rw [if_pos (by decide +kernel)]; kernel_rfl) | (rw [if_neg (by decide +kernel)]; exact ⟨rfl, rfl⟩))
    (fun os started H enc _ => sqturn_lifted os started H enc)
#print axioms sqturn_proved
end Go.Proofs.Ytjfciokpnhnhbaa
