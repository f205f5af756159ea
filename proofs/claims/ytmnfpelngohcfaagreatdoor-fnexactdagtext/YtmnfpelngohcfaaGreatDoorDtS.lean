/-
  The specification's DagText. No condition but that the slice reads.
-/
import Derived.Test.YtmnfpelngohcfaaGreatDoorDtP
namespace Go.Proofs.YtmnfpelngohcfaaGreatDoor
open Go.RowKit
set_option linter.unusedVariables false

theorem head_is (len : Nat) : lineB ⟨#[100, 97, 103]⟩ (decB len) = ((⟨#[100, 97, 103, 32]⟩ : ByteArray) ++ decB len) ++ ⟨#[10]⟩ := rfl

set_option maxRecDepth 10000 in
set_option maxHeartbeats 4000000 in
theorem l13Text_any (a : Option Addr) (len cap : Nat) (D : Nat → Nd) (w : World) (h : IsNds w a len cap D) (hf : Fine D len) (hl : len ≤ 30) :
    Calls Tryz.prog 18 #[.slice a len cap] w fun e w' => e = .returned (.string (dagT D len len)) ∧ Below w.heap.size w w' := by
  have HF := (show Hid _ from hf)
  have HE : Hid (∀ w', Below w.heap.size w w' → IsNds w' a len cap D) := fun w' hB => h.below hB
  obtain ⟨dc, hdc⟩ : ∃ dc, dc = decB len := ⟨_, rfl⟩
  have hds : dc.size ≤ 31 := by rw [hdc]; have := decB_size len; omega
  have e4 : (ByteArray.mk #[100, 97, 103, 32]).size = 4 := rfl
  have e1 : (ByteArray.mk #[10]).size = 1 := rfl
  have a1 := fun v => addT (a := (ByteArray.mk #[100, 97, 103, 32])) (b := dc) (by omega) v
  have a2 := fun v => addT (a := (ByteArray.mk #[100, 97, 103, 32]) ++ dc) (b := ⟨#[10]⟩) (by rw [ByteArray.size_append]; omega) v
  have H0 : Hid (dagT D len 0 = ((ByteArray.mk #[100, 97, 103, 32]) ++ dc) ++ ⟨#[10]⟩) := by rw [hdc]; exact head_is len
  have HDC := (show Hid _ from hdc)
  have HSZ := dagT_size D len hl
  clear h hf e4 e1 hdc
  go_enter Tryz.func18, Tryz.ntmps18
  go_wp2_with fail
  refine (l1Dec_any len (by omega) w).mono ?_
  rintro e w1 ⟨rfl, hB1⟩
  rw [← HDC.out]
  have HB1 : Hid (Below w.heap.size w w1) := hB1
  clear hB1
  have HC : Hid (∀ w', Below w.heap.size w w' → ∀ k, k < len → ∃ b off, a = some ⟨b, off, none⟩ ∧ NdAt w' b (off + k * 6) (D k)) := fun w' hB k hk => by
    obtain ⟨_, _, hc⟩ := HE.out w' hB
    obtain ⟨b, off, rfl, _, hcell⟩ := hc (by omega)
    exact ⟨b, off, rfl, hcell k hk⟩
  obtain ⟨t0, ht0⟩ : ∃ t0, t0 = ((ByteArray.mk #[100, 97, 103, 32]) ++ dc) ++ ⟨#[10]⟩ := ⟨_, rfl⟩
  go_wp2
  rw [← ht0]
  rw [← ht0] at H0
  clear a1 a2 ht0 HDC hds
  go_loopw [3, 4] (fun u i wr => ∃ (k : Nat) (t : ByteArray), k ≤ len ∧ u = .string t ∧ i = .int .i64 k ∧ Hid (t = dagT D len k) ∧ Hid (Below w.heap.size w wr)) (fun _ i _ => len - (Go.RowKit.intOf i).toNat)
  case atStart => exact ⟨0, t0, Nat.zero_le _, rfl, rfl, H0.out.symm, HB1.out⟩
  case round =>
    obtain ⟨k, t, hk, rfl, rfl, HT, HB⟩ := hrel
    by_cases hlt : k < len
    · have hltI : (k : Int) < (len : Int) := by omega
      obtain ⟨b, off, rfl, nd⟩ := HC.out wr HB.out k hlt
      have HSt := nd.i
      obtain ⟨c0, c1, c2, c3, c4, c5, _⟩ := nd
      obtain ⟨x, hx⟩ : ∃ x, x = (D k).txt := ⟨_, rfl⟩
      have e1 : (ByteArray.mk #[10]).size = 1 := rfl
      have hzt : t.size ≤ 40000000 := by rw [HT.out]; have := HSZ k; omega
      have hzx : x.size ≤ 1048576 := by rw [hx]; exact txt_size _
      have a3 := fun v => addT (a := t) (b := x) (by omega) v
      have a4 := fun v => addT (a := t ++ x) (b := ⟨#[10]⟩) (by rw [ByteArray.size_append]; omega) v
      have HN : Hid (t ++ x ++ ⟨#[10]⟩ = dagT D len (k + 1)) := by
        show _ = dagT D len k ++ ((D k).txt ++ ⟨#[10]⟩)
        rw [HT.out, hx, ByteArray.append_assoc]
      have HX := (show Hid _ from hx)
      have HSI := (show Hid _ from HSt)
      clear e1 hx HSt
      go_wp2_with fail
      refine (specNodeTextD_any _ _ _ _ _ _ _ _ (D k).S wr HSI.out (HF.out k hlt).2.2 (HF.out k hlt).1 (HF.out k hlt).2.1).mono ?_
      rintro e w2 ⟨rfl, hB2⟩
      have e2 : textR (D k).a (D k).s (D k).k (D k).key (D k).text (D k).S (D k).n = x := HX.out.symm
      rw [e2]
      have HB2 : Hid (Below w.heap.size w w2) := HB.out.trans (hB2.mono HB.out.size)
      clear hB2 e2 HX
      go_wp2
      go_roundw
      case rel => exact ⟨k + 1, _, by omega, rfl, by go_num, HN.out, HB2.out⟩
      case measure => simp [Go.RowKit.intOf]; omega
    · have hke : k = len := by omega
      subst hke
      go_wp2
      go_ret
      exact ⟨by rw [← HT.out]; rfl, HB.out⟩

theorem specDagText_any (a : Option Addr) (len cap : Nat) (D : Nat → Nd) (w : World) (h : IsNds w a len cap D) (hf : Fine D len) :
    Calls Tryz.prog 6 #[.slice a len cap] w fun e w' => e = .returned (.string (dagTR D len)) ∧ Below w.heap.size w w' := by
  have HE : Hid (∀ w', Below w.heap.size w w' → IsNds w' a len cap D) := fun w' hB => h.below hB
  have HF := (show Hid _ from hf)
  go_enter Tryz.func6, Tryz.ntmps6
  go_wp2_with fail
  refine (specDagOk_any a len cap D w (HE.out w (Below.refl _ _)) HF.out).mono ?_
  rintro e w1 ⟨rfl, hB1⟩
  cases hd : dagB D len with
  | false =>
    have HR : Hid (dagTR D len = ⟨#[]⟩ ∧ Below w.heap.size w w1) := ⟨by unfold dagTR; rw [hd]; rfl, hB1⟩
    clear h hf hB1
    go_wp2
    go_ret
    exact ⟨by rw [HR.out.1]; rfl, HR.out.2⟩
  | true =>
    have hl30 : len ≤ 30 := by
      unfold dagB at hd
      simp only [Bool.and_eq_true, decide_eq_true_eq] at hd
      exact hd.1
    have HD : Hid (dagTR D len = dagT D len len) := by show _ = _; unfold dagTR; rw [if_pos hd]
    have HB1 := (show Hid _ from hB1)
    clear h hf hB1
    go_wp2_with fail
    refine (l13Text_any a len cap D w1 (HE.out w1 HB1.out) HF.out hl30).mono ?_
    rintro e w2 ⟨rfl, hB2⟩
    have HB2 : Hid (Below w.heap.size w w2) := HB1.out.trans (hB2.mono HB1.out.size)
    rw [← HD.out]
    clear hB2
    go_wp2
    go_ret
    exact ⟨rfl, HB2.out⟩
end Go.Proofs.YtmnfpelngohcfaaGreatDoor
