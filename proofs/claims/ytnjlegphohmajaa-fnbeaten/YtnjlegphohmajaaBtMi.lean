/-
  The program's merging of beats. No condition but that the slices read.
-/
import Derived.Test.YtnjlegphohmajaaBtT2
namespace Go.Proofs.Ytnjlegphohmajaa
open Go.RowKit Go.Maps
set_option linter.unusedVariables false

theorem IsEvs.kept {w w' : World} {a : Option Addr} {len cap B c : Nat} {D : Nat → Ev} {E : DataW Value} {L : List Ev} (hs : IsEvs w a len cap D) (hG : w.grownBy w' (some B)) (hB : Bd w B c E L) : IsEvs w' a len cap D := by
  obtain ⟨h1, h2, h3⟩ := hs
  refine ⟨h1, h2, fun hp => ?_⟩
  obtain ⟨b, off, e, hb, hc⟩ := h3 hp
  have hne := (hc 0 hp).notMap hB
  exact ⟨b, off, e, Nat.lt_of_lt_of_le hb hG.size, fun i hi => (hc i hi).kept (hG.block b hb (by intro q; cases q; exact hne rfl))⟩
theorem wf_of {z : Int} (h1 : -9223372036854775808 ≤ z) (h2 : z ≤ 9223372036854775807) : (Lit.int .i64 z).wf = true := by
  have e1 : IntKind.i64.min = -9223372036854775808 := by decide
  have e2 : IntKind.i64.max = 9223372036854775807 := by decide
  simp [Lit.wf, e1, e2]
  omega
theorem fine_at {x : Ev} (h : x.fine = true) : (Lit.int .i64 x.a).wf = true ∧ 1 ≤ x.b := by
  unfold Ev.fine inB at h
  simp only [Bool.and_eq_true, decide_eq_true_eq] at h
  obtain ⟨⟨h1, h2⟩, ⟨h3, _⟩, _⟩ := h
  exact ⟨wf_of (by omega) (by omega), h3⟩
theorem beatsB_fine {D : Nat → Ev} {len k : Nat} (h : beatsB D len = true) (hk : k < len) : (D k).fine = true := by
  unfold beatsB at h
  simp only [Bool.and_eq_true] at h
  have := allB_at h.2 hk
  unfold okAt at this
  simp only [Bool.and_eq_true] at this
  exact this.1
theorem mgFrom_mem (S : List Ev) (D : Nat → Ev) : ∀ (k : Nat) (x : Ev), x ∈ mgFrom S D k → x ∈ S ∨ ∃ i, i < k ∧ x = D i
  | 0, x, h => .inl h
  | k + 1, x, h => by
    rcases putB_mem _ _ _ h with rfl | h
    · exact .inr ⟨k, Nat.lt_succ_self _, rfl⟩
    · rcases mgFrom_mem S D k x h with h | ⟨i, hi, e⟩
      · exact .inl h
      · exact .inr ⟨i, Nat.lt_succ_of_lt hi, e⟩

set_option maxRecDepth 10000 in
set_option maxHeartbeats 2000000 in
theorem implMerged_any (a1 : Option Addr) (l1 c1 : Nat) (D1 : Nat → Ev) (a2 : Option Addr) (l2 c2 : Nat) (D2 : Nat → Ev) (w : World) (h1 : IsEvs w a1 l1 c1 D1) (h2 : IsEvs w a2 l2 c2 D2) (hF1 : ∀ i, i < l1 → (D1 i).in) (hF2 : ∀ i, i < l2 → (D2 i).in) :
    Calls Try.prog 17 #[.slice a1 l1 c1, .slice a2 l2 c2] w fun e w' => ∃ v, e = .returned v ∧ OwnV w' w.heap.size v (mgR D1 l1 D2 l2) ∧ Below w.heap.size w w' := by
  have hmm := @run_makeMap Try.prog
  go_enter Try.func17, Try.ntmps17
  go_wp2_with fail
  refine (implBeats_any a1 l1 c1 D1 _ h1 hF1).mono ?_
  rintro e w1 ⟨rfl, hB1⟩
  have HB1 : Hid (Below w.heap.size w w1) := hB1
  clear hB1
  cases hb : beatsB D1 l1 with
  | false =>
    have HR : Hid (mgR D1 l1 D2 l2 = []) := by show _ = _; unfold mgR mgB; rw [hb]; rfl
    go_wp2
    go_ret
    exact ⟨_, rfl, by rw [HR.out]; exact OwnV.nil _ _, HB1.out⟩
  | true =>
    go_wp2_with fail
    refine (implBeats_any a2 l2 c2 D2 _ (h2.below HB1.out) hF2).mono ?_
    rintro e w2 ⟨rfl, hB2⟩
    have HB2 : Hid (Below w.heap.size w w2) := HB1.out.trans (hB2.mono HB1.out.size)
    clear hB2 HB1
    cases hb2 : beatsB D2 l2 with
    | false =>
      have HR : Hid (mgR D1 l1 D2 l2 = []) := by show _ = _; unfold mgR mgB; rw [hb, hb2]; rfl
      go_wp2
      go_ret
      exact ⟨_, rfl, by rw [HR.out]; exact OwnV.nil _ _, HB2.out⟩
    | true =>
      have HR : Hid (mgR D1 l1 D2 l2 = mgFrom (mgFrom [] D1 l1) D2 l2) := by show _ = _; unfold mgR mgB mgL; rw [hb, hb2]; rfl
      have hn1 := beatsB_len hb
      have hn2 := beatsB_len hb2
      have HD1 : Hid (∀ i, i < l1 → (Lit.int .i64 (D1 i).a).wf = true ∧ 1 ≤ (D1 i).b) := fun i hi => fine_at (beatsB_fine hb hi)
      have HD2 : Hid (∀ i, i < l2 → (Lit.int .i64 (D2 i).a).wf = true ∧ 1 ≤ (D2 i).b) := fun i hi => fine_at (beatsB_fine hb2 hi)
      have hBW : Below w.heap.size w (w2.alloc (.map #[] 0)) := HB2.out.alloc HB2.out.size _
      have HBd : Hid (Bd (w2.alloc (.map #[] 0)) w2.heap.size 0 (.map []) []) := Bd.new w2
      have HI1 : Hid (IsEvs (w2.alloc (.map #[] 0)) a1 l1 c1 D1) := h1.below hBW
      have HI2 : Hid (IsEvs (w2.alloc (.map #[] 0)) a2 l2 c2 D2) := h2.below hBW
      have HBW : Hid (Below w.heap.size w (w2.alloc (.map #[] 0))) := hBW
      clear hF1 hF2 hb hb2 h1 h2 hBW
      go_wp2_with fail
      refine (takeAll_any w2.heap.size 0 (.map []) [] a1 l1 c1 D1 _ HBd.out HI1.out (by omega) HD1.out).mono ?_
      rintro e w3 ⟨rfl, ⟨E3, hE3⟩, hG3⟩
      have HE3 : Hid (Bd w3 w2.heap.size (0 + l1) E3 (mgFrom [] D1 l1)) := hE3
      have HI3 : Hid (IsEvs w3 a2 l2 c2 D2) := HI2.out.kept hG3 HBd.out
      have HB3 : Hid (Below w.heap.size w w3) := HBW.out.grown hG3 HBW.out.size (fun k hk => by have hk' : some w2.heap.size = some k := hk; cases hk'; exact HB2.out.size)
      clear hE3 hG3
      go_wp2_with fail
      refine (takeAll_any w2.heap.size (0 + l1) E3 (mgFrom [] D1 l1) a2 l2 c2 D2 _ HE3.out HI3.out (by omega) HD2.out).mono ?_
      rintro e w4 ⟨rfl, ⟨E4, hE4⟩, hG4⟩
      have HE4 : Hid (Bd w4 w2.heap.size (0 + l1 + l2) E4 (mgFrom (mgFrom [] D1 l1) D2 l2)) := hE4
      have HB4 : Hid (Below w.heap.size w w4) := HB3.out.grown hG4 HB3.out.size (fun k hk => by have hk' : some w2.heap.size = some k := hk; cases hk'; exact HB2.out.size)
      clear hE4 hG4
      have hML : (mgFrom (mgFrom [] D1 l1) D2 l2).length ≤ 24 := by
        have h3 := mgFrom_len [] D1 l1
        have h4 := mgFrom_len (mgFrom [] D1 l1) D2 l2
        simp at h3
        omega
      have HWF : Hid (∀ x ∈ mgFrom (mgFrom [] D1 l1) D2 l2, (Lit.int .i64 x.a).wf = true) := fun x hx => by
        rcases mgFrom_mem _ _ _ _ hx with hx | ⟨i, hi, rfl⟩
        · rcases mgFrom_mem _ _ _ _ hx with hx | ⟨i, hi, rfl⟩
          · cases hx
          · exact (HD1.out i hi).1
        · exact (HD2.out i hi).1
      go_wp2_with fail
      refine (told_any w2.heap.size (0 + l1 + l2) E4 _ _ HE4.out (by omega) (by omega) HWF.out).mono ?_
      rintro e w5 ⟨v, rfl, hO5, hB5⟩
      have HF : Hid (OwnV w5 w.heap.size v (mgR D1 l1 D2 l2) ∧ Below w.heap.size w w5) := by
        rw [HR.out]
        exact ⟨hO5.base HB4.out.size, HB4.out.trans (hB5.mono HB4.out.size)⟩
      clear hO5 hB5
      go_wp2
      go_ret
      exact ⟨_, rfl, HF.out.1, HF.out.2⟩
end Go.Proofs.Ytnjlegphohmajaa
