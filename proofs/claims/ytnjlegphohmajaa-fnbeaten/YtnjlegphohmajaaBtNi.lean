/-
  The program's Beaten. No condition but that the slice reads.
-/
import Derived.Test.YtnjlegphohmajaaBtN
import Derived.Test.YtnjlegphohmajaaEVal2
namespace Go.Proofs.Ytnjlegphohmajaa
open Go.RowKit Go.Maps
set_option linter.unusedVariables false

theorem clock_of (y : Ev) (w : World) : (Instr.field 32 (.agg #[.int .i64 y.a, .int .i64 y.b, .int .i64 y.c, .string y.d]) 1).run Try.prog w = .ok (.int .i64 y.b) w := by
  have a2 := Try.isAgg2
  have uB := Try.underlying32
  simp [Instr.field, run_underlying uB, asAgg, part, go_sem, Result.andThen, a2]

set_option maxRecDepth 10000 in
set_option maxHeartbeats 4000000 in
theorem implBeaten_any (a : Option Addr) (cap : Nat) (A : List Ev) (who at' : Int) (t : ByteArray) (w : World) (h : IsEvs w a A.length cap (fun i => A.getD i evZ)) (hF : ∀ i, i < A.length → (A.getD i evZ).in) (ht : t.size ≤ 9223372036854775807) (hw : (Lit.int .i64 who).wf = true) :
    Calls Try.prog 10 #[.slice a A.length cap, .int .i64 who, .int .i64 at', .string t] w fun e w' => ∃ v, e = .returned (.tuple #[v, .bool (bnB A who at' t)]) ∧ OwnV w' w.heap.size v (bnR A who at' t) ∧ Below w.heap.size w w' := by
  have hmm := @run_makeMap Try.prog
  have HFF : Hid (∀ x ∈ A, x.in) := fun x hx => by
    obtain ⟨i, hi, rfl⟩ := List.getElem_of_mem hx
    have := hF i hi
    rw [getD_get hi] at this
    exact this
  have HS : Hid (Calls Try.prog 13 #[.slice a A.length cap] w fun e w' => e = .returned (.bool (beatsL A)) ∧ Below w.heap.size w w') := implBeats_any _ _ _ _ w h hF
  have HI : Hid (IsEvs w a A.length cap (fun i => A.getD i evZ)) := h
  clear h hF
  go_enter Try.func10, Try.ntmps10
  go_wp2_with fail
  refine HS.out.mono ?_
  rintro e w1 ⟨rfl, hB1⟩
  have HB1 : Hid (Below w.heap.size w w1) := hB1
  clear hB1
  cases hA : beatsL A with
  | false =>
    have HR : Hid (bnB A who at' t = false ∧ bnR A who at' t = []) := by
      have e1 : bnB A who at' t = false := by unfold bnB; rw [hA]; rfl
      exact ⟨e1, by unfold bnR; rw [e1]; rfl⟩
    go_wp2
    go_ret2
    rw [HR.out.1]
    exact ⟨_, rfl, by rw [HR.out.2]; exact OwnV.nil _ _, HB1.out⟩
  | true =>
    have HU : Hid (UpB A) := beatsL_up hA
    have hn12 : A.length ≤ 12 := beatsL_len hA
    have HA : Hid (beatsL A = true) := hA
    have HM : Hid (mgFrom [] (fun i => A.getD i evZ) A.length = A) := mgFrom_list A HU.out
    have HD : Hid (∀ i, i < A.length → (Lit.int .i64 (A.getD i evZ).a).wf = true ∧ 1 ≤ (A.getD i evZ).b) := fun i hi => fine_at (beatsL_fine hA _ (by rw [getD_get hi]; exact List.getElem_mem _))
    have HBd : Hid (Bd (w1.alloc (.map #[] 0)) w1.heap.size 0 (.map []) []) := Bd.new w1
    have HBW : Hid (Below w.heap.size w (w1.alloc (.map #[] 0))) := HB1.out.alloc HB1.out.size _
    have HI1 : Hid (IsEvs (w1.alloc (.map #[] 0)) a A.length cap (fun i => A.getD i evZ)) := HI.out.below HBW.out
    clear hA HI
    go_wp2_with fail
    refine (takeAll_any w1.heap.size 0 (.map []) [] a A.length cap (fun i => A.getD i evZ) _ HBd.out HI1.out (by omega) HD.out).mono ?_
    rintro e w3 ⟨rfl, ⟨E3, hE3⟩, hG3⟩
    rw [HM.out] at hE3
    have HE3 : Hid (Bd w3 w1.heap.size (0 + A.length) E3 A) := hE3
    have HB3 : Hid (Below w.heap.size w w3) := HBW.out.grown hG3 HBW.out.size (fun k hk => by have hk' : some w1.heap.size = some k := hk; cases hk'; exact HB1.out.size)
    obtain ⟨y, hy⟩ : ∃ y, y = (lookB A who).getD evZ := ⟨_, rfl⟩
    have hlk : (Instr.lookup 62 (.map (some w1.heap.size)) (.int .i64 who) false).run Try.prog w3 = .ok (.agg #[.int .i64 y.a, .int .i64 y.b, .int .i64 y.c, .string y.d]) w3 := by rw [hE3.look hw, ← hy]; rfl
    have hyb : 0 ≤ y.b ∧ y.b ≤ 1000000 := by
      cases hq : lookB A who with
      | none => rw [hq] at hy; rw [show y = evZ from hy]; exact ⟨Int.le_refl _, by decide⟩
      | some z =>
        rw [hq] at hy
        rw [show y = z from hy]
        have := beatsL_fine HA.out z (lookB_mem hq).1
        unfold Ev.fine inB at this
        simp only [Bool.and_eq_true, decide_eq_true_eq] at this
        have := this.2.1
        omega
    have hw1 : IntKind.i64.wrap (y.b + 1) = y.b + 1 := by rw [IntKind.wrap_i64]; omega
    have hxe : nextE A who at' t = ⟨who, y.b + 1, at', t⟩ := by rw [hy]; rfl
    have HX : Hid (nextE A who at' t = ⟨who, y.b + 1, at', t⟩) := hxe
    have HY1 : Hid (1 ≤ y.b + 1) := by show _ ≤ _; omega
    have hfl := clock_of y w3
    clear hE3 hG3 hy hyb hxe
    go_wp2_with fail
    refine (take_any w1.heap.size (0 + A.length) E3 A ⟨who, y.b + 1, at', t⟩ _ HE3.out (by omega) hw HY1.out).mono ?_
    rintro e w4 ⟨rfl, ⟨E4, hE4⟩, hG4⟩
    have HB4 : Hid (Below w.heap.size w w4) := HB3.out.grown hG4 HB3.out.size (fun k hk => by have hk' : some w1.heap.size = some k := hk; cases hk'; exact HB1.out.size)
    rw [← HX.out] at hE4
    have HE4 : Hid (Bd w4 w1.heap.size (0 + A.length + 1) E4 (putB A (nextE A who at' t))) := hE4
    have hPl := putB_len (nextE A who at' t) A
    have HWF : Hid (∀ x ∈ putB A (nextE A who at' t), (Lit.int .i64 x.a).wf = true) := fun x hx => by
      rcases putB_mem _ _ _ hx with rfl | hx
      · exact hw
      · exact (fine_at (beatsL_fine HA.out x hx)).1
    have HPM : Hid (∀ z ∈ putB A (nextE A who at' t), z.in) := fun z hz => by
      rcases putB_mem _ _ _ hz with rfl | hz
      · exact ht
      · exact HFF.out z hz
    have HBN : Hid (bnB A who at' t = beatsL (putB A (nextE A who at' t))) := by show _ = _; unfold bnB; rw [HA.out, Bool.true_and]
    have HRN : Hid (bnR A who at' t = if bnB A who at' t = true then putB A (nextE A who at' t) else []) := rfl
    generalize nextE A who at' t = x at HE4 HWF HPM HBN HRN hPl
    clear hE4 hG4 hlk
    go_wp2_with fail
    refine (told_any w1.heap.size (0 + A.length + 1) E4 (putB A x) _ HE4.out (by omega) (by omega) HWF.out).mono ?_
    rintro e w5 ⟨v, rfl, hO5, hB5⟩
    have HB5 : Hid (Below w.heap.size w w5) := HB4.out.trans (hB5.mono HB4.out.size)
    have HO5 : Hid (OwnV w5 w.heap.size v (putB A x)) := hO5.base HB4.out.size
    obtain ⟨a5, cap5, rfl, hI5⟩ := OwnV.evs hO5
    have HI5 : Hid (IsEvs w5 a5 (putB A x).length cap5 (fun i => (putB A x).getD i evZ)) := hI5
    clear hO5 hB5 hI5
    go_wp2_with fail
    refine (implBeats_any _ _ _ _ _ HI5.out (fun i hi => by rw [getD_get hi]; exact HPM.out _ (List.getElem_mem _))).mono ?_
    rintro e w6 ⟨rfl, hB6⟩
    have HB6 : Hid (Below w.heap.size w w6) := HB5.out.trans (hB6.mono HB5.out.size)
    have HO6 : Hid (OwnV w6 w.heap.size (.slice a5 (putB A x).length cap5) (putB A x)) := HO5.out.below hB6
    have hq : bnB A who at' t = beatsB (fun i => (putB A x).getD i evZ) (putB A x).length := HBN.out
    have HQ : Hid (_) := hq
    clear hB6 hq
    cases hbb : beatsB (fun i => (putB A x).getD i evZ) (putB A x).length with
    | false =>
      have HR : Hid (bnB A who at' t = false ∧ bnR A who at' t = []) := by
        have q1 : bnB A who at' t = false := by rw [HQ.out, hbb]
        exact ⟨q1, by rw [HRN.out, q1]; rfl⟩
      go_wp2
      go_ret2
      rw [HR.out.1]
      exact ⟨_, rfl, by rw [HR.out.2]; exact OwnV.nil _ _, HB6.out⟩
    | true =>
      have HR : Hid (bnB A who at' t = true ∧ bnR A who at' t = putB A x) := by
        have q1 : bnB A who at' t = true := by rw [HQ.out, hbb]
        exact ⟨q1, by rw [HRN.out, q1]; rfl⟩
      go_wp2
      go_ret2
      rw [HR.out.1]
      exact ⟨_, rfl, by rw [HR.out.2]; exact HO6.out, HB6.out⟩
end Go.Proofs.Ytnjlegphohmajaa
