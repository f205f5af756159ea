/-
  The specification's SeqText. No condition but that the slice reads.
-/
import Derived.Test.YtjfciokpnhnhbaaSqTx
namespace Go.Proofs.Ytjfciokpnhnhbaa
open Go.RowKit
set_option linter.unusedVariables false

theorem addS {a b : ByteArray} (h : a.size + b.size ≤ 2000000000) (w : World) : (Op.stringOp .add a b).run Try.prog w = .ok (.string (a ++ b)) w := run_string_add_sum w _ _ (by omega)

set_option maxRecDepth 10000 in
set_option maxHeartbeats 4000000 in
theorem l10Text_any (a : Option Addr) (len cap : Nat) (D : Nat → Ev) (w : World) (h : IsEvs w a len cap D) (hs : seqB D len = true) :
    Calls Try.prog 32 #[.slice a len cap] w fun e w' => e = .returned (.string (textR D len)) ∧ Below w.heap.size w w' := by
  have HE : Hid (∀ w', Below w.heap.size w w' → IsEvs w' a len cap D) := fun w' hB => h.below hB
  have HS : Hid (seqB D len = true) := hs
  have HSP := (show Hid _ from seqB_parts hs)
  have HE0 := (show Hid _ from h)
  clear h hs
  go_enter Try.func32, Try.ntmps32
  go_wp2_with fail
  refine (l10Ids_any a len cap D w HE0.out HS.out).mono ?_
  rintro e w1 ⟨v, rfl, hO1, hB1⟩
  obtain ⟨L, hL⟩ : ∃ L, L = idsL D len := ⟨_, rfl⟩
  rw [← hL] at hO1
  have HLI : Hid (∀ y ∈ L, insB D len y = true) := fun y hy => by
    have : y ∈ idsR D len := by rw [idsR_yes HS.out, ← hL]; exact hy
    exact (idsR_ins this).1
  have HL : Hid (textOf D len L = textR D len ∧ L.length ≤ 40) := ⟨by rw [hL]; unfold textR; rw [idsR_yes HS.out], by have := idsR_len D len; rw [idsR_yes HS.out, ← hL] at this; exact this⟩
  have HB1 : Hid (Below w.heap.size w w1) := hB1
  obtain ⟨va, vc, rfl, hlc, hcm, hcc⟩ := hO1.rd
  obtain ⟨m, hm⟩ : ∃ m, m = L.length := ⟨_, rfl⟩
  rw [← hm] at hlc hcc ⊢
  have HM : Hid (m = L.length) := hm
  have hm40 : m ≤ 40 := by have := HL.out.2; omega
  clear hO1 hB1 hL hm
  go_wp2
  go_loop [4, 5] (fun s i => ∃ (k : Nat) (t : ByteArray), k ≤ m ∧ i = .int .i64 k ∧ s = .string t ∧ Hid (t = textOf D len (L.take k))) (fun _ i => m - (Go.RowKit.intOf i).toNat)
  case atStart => exact ⟨0, _, Nat.zero_le _, rfl, rfl, rfl⟩
  case round =>
    obtain ⟨k, t, hk, rfl, rfl, HI⟩ := hrel
    by_cases hlt : k < m
    · have hltI : (k : Int) < (m : Int) := by omega
      obtain ⟨b, off, rfl, hb, hc⟩ := hcc (by omega)
      obtain ⟨y, hy⟩ : ∃ y, y = L.getD k 0 := ⟨_, rfl⟩
      have c1 := hc k hlt
      rw [← hy] at c1
      have hkl : k < L.length := by have := HM.out; omega
      have hyi : insB D len y = true := HLI.out y (by rw [hy]; simp [List.getD, hkl])
      obtain ⟨j, hj, hbj, haj⟩ := insB_iff.1 hyi
      have hsg := sgn_at HSP.out.2 hj
      rw [haj] at hsg
      obtain ⟨b2, off2, rfl, hb2, hc2⟩ := (HE.out w1 HB1.out).2.2 (by omega)
      have c3 := (hc2 j hj).c3
      rw [← hsg.1] at c3
      obtain ⟨sy, hsy⟩ : ∃ s, s = sgn D len y := ⟨_, rfl⟩
      rw [← hsy] at c3
      have hat : atZ (firstA D y len) = (j : Int) := by rw [hsg.2]; rfl
      have HAT : Hid (atZ (firstA D y len) = (j : Int)) := hat
      have hjI : (j : Int) < (len : Int) := by omega
      have hts : t.size ≤ 40 := by
        rw [HI.out, textOf_len HSP.out.2 HLI.out k (by omega)]
        omega
      have hadd : ∀ w' : World, (Op.stringOp .add t sy).run Try.prog w' = .ok (.string (t ++ sy)) w' := fun w' => addS (by rw [hsy, sgn_one HSP.out.2 hyi]; omega) w'
      have HR : Hid (t ++ sy = textOf D len (L.take (k + 1))) := by show _ = _; rw [HI.out, hsy, hy]; exact (textOf_take D len L hkl).symm
      clear hc hc2 hsg hyi hbj haj hsy hy hat hts HI hkl
      go_wp2_with fail
      refine (at_any _ len cap D y w1 (HE.out w1 HB1.out)).mono ?_
      rintro e w' ⟨rfl, hw⟩
      rw [hw, HAT.out]
      clear hw w'
      go_wp2
      go_round
      case rel => exact ⟨k + 1, _, by omega, by go_num, rfl, HR.out⟩
      case measure => simp [Go.RowKit.intOf]; omega
    · have hltI : ¬ (k : Int) < (m : Int) := by omega
      have hkm : k = m := by omega
      subst hkm
      have HT : Hid (t = textR D len) := by show _ = _; rw [HI.out, HM.out, List.take_length]; exact HL.out.1
      clear HI
      go_wp2
      go_ret
      exact ⟨ret_val (by rw [HT.out]; rfl), HB1.out⟩

set_option maxHeartbeats 1000000 in
theorem specText_any (a : Option Addr) (len cap : Nat) (D : Nat → Ev) (w : World) (h : IsEvs w a len cap D) (hF : ∀ i, i < len → (D i).d.size ≤ 9223372036854775807) :
    Calls Try.prog 22 #[.slice a len cap] w fun e w' => e = .returned (.string (textR D len)) ∧ Below w.heap.size w w' := by
  have HE : Hid (∀ w', Below w.heap.size w w' → IsEvs w' a len cap D) := fun w' hB => h.below hB
  go_enter Try.func22, Try.ntmps22
  go_wp2_with fail
  refine (specSeq_any a len cap D w h hF).mono ?_
  rintro e w1 ⟨rfl, hB1⟩
  have HB1 : Hid (Below w.heap.size w w1) := hB1
  clear h hF hB1
  cases hs : seqB D len with
  | false =>
    have HN : Hid (textR D len = ⟨#[]⟩) := by show _ = _; unfold textR; rw [idsR_no hs]; rfl
    clear hs
    go_wp2
    go_ret
    exact ⟨ret_val (by rw [HN.out]; rfl), HB1.out⟩
  | true =>
    have HS : Hid (seqB D len = true) := hs
    clear hs
    go_wp2_with fail
    refine (l10Text_any a len cap D w1 (HE.out w1 HB1.out) HS.out).mono ?_
    rintro e w2 ⟨rfl, hB2⟩
    have HB2 : Hid (Below w.heap.size w w2) := HB1.out.trans (hB2.mono HB1.out.size)
    clear hB2
    go_wp2
    go_ret
    exact ⟨rfl, HB2.out⟩
end Go.Proofs.Ytjfciokpnhnhbaa
