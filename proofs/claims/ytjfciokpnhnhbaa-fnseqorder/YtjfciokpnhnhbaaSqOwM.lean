/-
  The statement FnSeqOrderSaid: at every code the law returns true, and the code reads afterwards as it read before. No condition.
-/
import Derived.Test.YtjfciokpnhnhbaaSqM1
import Derived.Test.YtjfciokpnhnhbaaSqM5
import Derived.Test.YtjfciokpnhnhbaaSqPd
import Derived.Test.YtjfciokpnhnhbaaSqM4
import Derived.Test.YtjfciokpnhnhbaaOpenU5
import Derived.Test.YtjfciokpnhnhbaaRows
namespace Go.Proofs.Ytjfciokpnhnhbaa
open Go.ChangeShapes Go.WideShapes Go.ChangeAt Go.RowKit Go.Deep
set_option linter.unusedVariables false

set_option maxRecDepth 10000 in
set_option maxHeartbeats 8000000 in
theorem sqord_walk {a : Option Addr} {len cap : Nat} {Z : Nat → Int} (W : World) (hU : IsU8 W a len cap Z) :
    Calls Try.prog 5 #[.slice a len cap] W fun e w' => e = .returned (.bool true) ∧ Below W.heap.size W w' := by
  go_enter Try.func5, Try.ntmps5
  go_wp2_with fail
  refine (big_any a len cap W).mono ?_
  rintro e wq ⟨rfl, hwq⟩
  rw [hwq]
  clear hwq wq
  cases hbig : decide ((1048576 : Int) < (len : Int)) with
  | true =>
    go_wp2
    go_ret
    exact ⟨rfl, Below.refl _ _⟩
  | false =>
    go_wp2_with fail
    refine (drawMerged_any W hU).mono ?_
    rintro e w1 ⟨va, vb, A, B, rfl, ⟨hA1, hB1, hIA, hIB, hlA, hlB⟩, hW1⟩
    obtain ⟨ga, ca, hva, hEA⟩ := hA1.lies
    obtain ⟨gb, cb', hvb, hEB⟩ := hB1.lies
    obtain ⟨n, hn⟩ : ∃ n, n = A.length := ⟨_, rfl⟩
    obtain ⟨m, hm⟩ : ∃ m, m = B.length := ⟨_, rfl⟩
    have HN := (show Hid _ from hn)
    have HM := (show Hid _ from hm)
    rw [← hn] at hva hlA
    rw [← hm] at hvb hlB
    subst hva
    subst hvb
    have HW1 : Hid (Below W.heap.size W w1) := hW1
    have HEA : Hid (∀ w', Below w1.heap.size w1 w' → OwnE w' W.heap.size ga ca A) := fun w' hB => OwnV.below hEA hB
    have HEB : Hid (∀ w', Below w1.heap.size w1 w' → OwnE w' W.heap.size gb cb' B) := fun w' hB => OwnV.below hEB hB
    have HI : Hid (InL A ∧ InL B) := ⟨hIA, hIB⟩
    clear hn hm hW1 hA1 hB1 hEA hEB hIA hIB
    obtain ⟨ok, hok⟩ : ∃ ok, ok = mergedB A B := ⟨_, rfl⟩
    obtain ⟨M, hM⟩ : ∃ M, M = resM A B := ⟨_, rfl⟩
    have HK : Hid (ok = mergedB A B ∧ M = resM A B) := ⟨hok, hM⟩
    have HMI : Hid (∀ w', Below w1.heap.size w1 w' → Calls Try.prog 14 #[.slice (some ⟨ga, 0, none⟩) n ca, .slice (some ⟨gb, 0, none⟩) m cb'] w' fun e w'' => ∃ v, e = .returned (.tuple #[v, .bool ok]) ∧ OwnV w'' w'.heap.size v M ∧ Below w'.heap.size w' w'') := fun w' hB' => by
      rw [HN.out, HM.out, hok, hM]
      have e1 := HEA.out w' hB'
      have e2 := HEB.out w' hB'
      refine (implMerged_any ga 0 ca gb 0 cb' A B w' e1.lies.1 e1.lies.2.1 e1.caps.1 e1.caps.2 e2.lies.1 e2.lies.2.1 e2.caps.1 e2.caps.2 HI.out.1 HI.out.2).mono ?_
      rintro e w'' ⟨v, rfl, hg, hB⟩
      exact ⟨v, rfl, hg.res, hB⟩
    have HMS : Hid (∀ w', Below w1.heap.size w1 w' → Calls Try.prog 15 #[.slice (some ⟨ga, 0, none⟩) n ca, .slice (some ⟨gb, 0, none⟩) m cb'] w' fun e w'' => ∃ v, e = .returned (.tuple #[v, .bool ok]) ∧ OwnV w'' w'.heap.size v M ∧ Below w'.heap.size w' w'') := fun w' hB' => by
      rw [HN.out, HM.out, hok, hM]
      have e1 := HEA.out w' hB'
      have e2 := HEB.out w' hB'
      refine (specMerged_any ga 0 ca gb 0 cb' A B w' e1.lies.1 e1.lies.2.1 e1.caps.1 e1.caps.2 e2.lies.1 e2.lies.2.1 e2.caps.1 e2.caps.2 HI.out.1 HI.out.2).mono ?_
      rintro e w'' ⟨v, rfl, hg, hB⟩
      exact ⟨v, rfl, hg.v.res, hB⟩
    clear hok hM
    have hokn : (ok != ok) = false := by simp
    have hoke : (ok == ok) = true := by simp
    go_wp2_with fail
    refine (HMI.out w1 (Below.refl _ _)).mono ?_
    rintro e w2 ⟨vm, rfl, hm2, hB2⟩
    have HB2 : Hid (Below w1.heap.size w1 w2) := hB2
    have HM2 : Hid (OwnV w2 w1.heap.size vm M) := hm2
    clear hm2 hB2
    go_wp2_with fail
    refine (HMS.out w2 HB2.out).mono ?_
    rintro e w3 ⟨vs, rfl, hs3, hB3⟩
    have HB3 : Hid (Below w1.heap.size w1 w3) := HB2.out.trans (hB3.mono HB2.out.size)
    have HM3 : Hid (OwnV w3 w1.heap.size vm M ∧ OwnV w3 w2.heap.size vs M) := ⟨HM2.out.below hB3, hs3⟩
    clear hs3 hB3 HB2 HM2
    cases ok with
    | false =>
      have HB7 : Hid (Below W.heap.size W w3) := HW1.out.trans (HB3.out.mono HW1.out.size)
      go_wp2
      go_ret
      exact ⟨rfl, HB7.out⟩
    | true =>
      have HP : Hid (mergedB A B = true ∧ M = mergeS A B) := by
        obtain ⟨k1, k2⟩ := HK.out
        refine ⟨k1.symm, ?_⟩
        rw [k2]
        unfold resM
        rw [if_pos k1.symm]
      have HQ : Hid (seqL A = true ∧ seqL M = true ∧ ∀ x ∈ A, x ∈ M) := by
        obtain ⟨k1, k2⟩ := HP.out
        obtain ⟨h1, h2, h3, h4⟩ := mergedB_iff.1 k1
        refine ⟨h1, by rw [k2]; exact h4, fun x hx => by rw [k2]; exact (merged_mem k1).2 (.inl hx)⟩
      have HIM : Hid (InL M) := by rw [HP.out.2]; exact mergeS_in HI.out.1 HI.out.2
      clear hokn hoke HMI HMS
      obtain ⟨mb, mc, hvm, hEM⟩ := HM3.out.1.evs
      subst hvm
      go_wp2_with fail
      refine (implIds_any mb M.length mc (gD M) w3 hEM HIM.out).mono ?_
      rintro e w4 ⟨vall, rfl, hO4, hB4⟩
      have HB4 : Hid (Below w1.heap.size w1 w4) := HB3.out.trans (hB4.mono HB3.out.size)
      have HI4 : Hid (RdI w4 vall (idsR (gD M) M.length)) := hO4.rd
      have HEA4 : Hid (IsEvs w4 (some ⟨ga, 0, none⟩) n ca (gD A)) := by
        have h1 := HEA.out w4 HB4.out
        rw [HN.out]
        exact (OwnE.lies h1).1.evs (OwnE.lies h1).2.1 (OwnE.caps h1).1 (OwnE.caps h1).2
      clear hB4 hO4 hEM HM3 HB3
      go_wp2_with fail
      refine (implIds_any (some ⟨ga, 0, none⟩) n ca (gD A) w4 HEA4.out (by rw [HN.out]; exact HI.out.1)).mono ?_
      rintro e w5 ⟨vold, rfl, hO5, hB5⟩
      have HB5 : Hid (Below w1.heap.size w1 w5) := HB4.out.trans (hB5.mono HB4.out.size)
      obtain ⟨L, hL⟩ : ∃ L, L = idsR (gD M) M.length := ⟨_, rfl⟩
      obtain ⟨O, hO⟩ : ∃ O, O = idsR (gD A) A.length := ⟨_, rfl⟩
      have hO5' : RdI w5 vold O := by rw [hO, ← HN.out]; exact hO5.rd
      have hI5 : RdI w5 vall L := by rw [hL]; exact HI4.out.below hB5
      have HOR : Hid (∀ i' i p k, i < L.length → i' < i → p < O.length → k < p → O.getD p 0 = L.getD i' 0 → O.getD k 0 = L.getD i 0 → False) := fun i' i p k h1 h2 h3 h4 h5 h6 => by
        rw [hL] at h1 h5 h6
        rw [hO] at h3 h5 h6
        exact ids_order HQ.out.1 HQ.out.2.1 HQ.out.2.2 h1 h2 h3 h4 h5 h6
      have HND : Hid (O.Nodup) := by rw [hO]; exact idsR_nodup (seqG HQ.out.1)
      have hL40 : L.length ≤ 40 := by rw [hL]; exact idsR_len _ _
      have hO40 : O.length ≤ 40 := by rw [hO]; exact idsR_len _ _
      clear hL hO hO5 HI4 HEA4 hB5
      obtain ⟨la, lc, hvl, hll, hlm, hlc⟩ := hI5
      obtain ⟨oa, oc, hvo, hol, hom, hoc⟩ := hO5'
      obtain ⟨p, hp⟩ : ∃ p, p = L.length := ⟨_, rfl⟩
      obtain ⟨r, hr⟩ : ∃ r, r = O.length := ⟨_, rfl⟩
      have HPP := (show Hid _ from hp)
      have HRR := (show Hid _ from hr)
      rw [← hp] at hvl hll hlc hL40
      rw [← hr] at hvo hol hoc hO40
      clear hp hr
      subst hvl
      subst hvo
      have HCL : Hid (∀ w', Below w5.heap.size w5 w' → ∀ k, k < p → ∃ b off, la = some ⟨b, off, none⟩ ∧ w'.cell? ⟨b, off + k, none⟩ = some (.int .i64 (L.getD k 0))) := fun w' hB k hk => by
        obtain ⟨b, off, rfl, hbs, hcell⟩ := hlc (by omega)
        exact ⟨b, off, rfl, (hB.cell (p := ⟨b, off + k, none⟩) hbs).trans (hcell k hk)⟩
      have HCO : Hid (∀ w', Below w5.heap.size w5 w' → ∀ k, k < r → ∃ b off, oa = some ⟨b, off, none⟩ ∧ w'.cell? ⟨b, off + k, none⟩ = some (.int .i64 (O.getD k 0))) := fun w' hB k hk => by
        obtain ⟨b, off, rfl, hbs, hcell⟩ := hoc (by omega)
        exact ⟨b, off, rfl, (hB.cell (p := ⟨b, off + k, none⟩) hbs).trans (hcell k hk)⟩
      have HWW : Hid (∀ w', Below w5.heap.size w5 w' → Below W.heap.size W w') := fun w' hB => HW1.out.trans ((HB5.out.trans (hB.mono HB5.out.size)).mono HW1.out.size)
      clear hlc hoc HEA HEB HI
      go_wp2
      go_loopw [11, 12] (fun t i wr => ∃ (k j : Nat), k ≤ p ∧ j ≤ r ∧ t = .int .i64 j ∧ i = .int .i64 k ∧ Hid (j = 0 ∨ ∃ i', i' < k ∧ O.getD (j - 1) 0 = L.getD i' 0) ∧ Hid (Below w5.heap.size w5 wr)) (fun _ i _ => p - (Go.RowKit.intOf i).toNat)
      case atStart => exact ⟨0, 0, Nat.zero_le _, Nat.zero_le _, rfl, rfl, .inl rfl, Below.refl _ _⟩
      case round =>
        obtain ⟨k, j, hk, hj, rfl, rfl, HJ, HBr⟩ := hrel
        by_cases hlt : k < p
        · have hltI : (k : Int) < (p : Int) := by omega
          obtain ⟨lb, lo, rfl, _⟩ := HCL.out wr HBr.out k hlt
          obtain ⟨x, hx⟩ : ∃ x, x = L.getD k 0 := ⟨_, rfl⟩
          have HX : Hid (∀ w', Below w5.heap.size w5 w' → w'.cell? ⟨lb, lo + k, none⟩ = some (.int .i64 x)) := fun w' hB => by
            obtain ⟨b, off, e, h⟩ := HCL.out w' hB k hlt
            simp only [Option.some.injEq, Addr.mk.injEq, and_true] at e
            obtain ⟨rfl, rfl⟩ := e
            rw [hx]
            exact h
          have HXL := (show Hid _ from hx)
          clear hx
          have HB0 := HBr
          clear HBr
          go_wp2
          go_loopw [11, 13] (fun t i wr => ∃ (k2 j2 : Nat), k2 ≤ r ∧ j ≤ k2 ∧ j2 ≤ r ∧ t = .int .i64 j2 ∧ i = .int .i64 k2 ∧ Hid ((j2 = j ∧ ∀ q, j ≤ q → q < k2 → O.getD q 0 ≠ x) ∨ ∃ q, q < k2 ∧ j2 = q + 1 ∧ O.getD q 0 = x) ∧ Hid (Below w5.heap.size w5 wr)) (fun _ i _ => r - (Go.RowKit.intOf i).toNat)
          case atStart => exact ⟨j, j, hj, Nat.le_refl _, hj, rfl, rfl, .inl ⟨rfl, fun q h1 h2 => by omega⟩, HB0.out⟩
          case round =>
            obtain ⟨k2, j2, hk2, hjk2, hj2, rfl, rfl, HJ2, HBr⟩ := hrel
            have hxc := HX.out wr HBr.out
            by_cases hlt2 : k2 < r
            · obtain ⟨ob, oo, rfl, hoc⟩ := HCO.out wr HBr.out k2 hlt2
              obtain ⟨y, hy⟩ : ∃ y, y = O.getD k2 0 := ⟨_, rfl⟩
              rw [← hy] at hoc
              have HY := (show Hid _ from hy)
              clear hy
              have hltI2 : (k2 : Int) < (r : Int) := by omega
              cases hq : (y == x) with
              | true =>
                have HE : Hid (O.getD k2 0 = x) := by show _ = _; rw [← HY.out]; simpa using hq
                go_wp2
                go_quiet (fail)
                go_wp2
                go_roundw
                case rel => exact ⟨k2 + 1, k2 + 1, by omega, by omega, by omega, by go_num, by go_num, .inr ⟨k2, by omega, rfl, HE.out⟩, below_drewN HBr.out _⟩
                case measure => simp [Go.RowKit.intOf]; omega
              | false =>
                have HE : Hid (O.getD k2 0 ≠ x) := by show _ ≠ _; rw [← HY.out]; simpa using hq
                have HJ3 : Hid ((j2 = j ∧ ∀ q, j ≤ q → q < k2 + 1 → O.getD q 0 ≠ x) ∨ ∃ q, q < k2 + 1 ∧ j2 = q + 1 ∧ O.getD q 0 = x) := by
                  rcases HJ2.out with ⟨h1, h2⟩ | ⟨q, h1, h2, h3⟩
                  · refine .inl ⟨h1, fun q hq1 hq2 => ?_⟩
                    rcases Nat.lt_succ_iff_lt_or_eq.1 hq2 with h | rfl
                    · exact h2 q hq1 h
                    · exact HE.out
                  · exact .inr ⟨q, by omega, h2, h3⟩
                go_wp2
                go_quiet (fail)
                go_wp2
                go_roundw
                case rel => exact ⟨k2 + 1, j2, by omega, by omega, by omega, rfl, by go_num, HJ3.out, below_drewN HBr.out _⟩
                case measure => simp [Go.RowKit.intOf]; omega
            · have hke : k2 = r := by omega
              subst hke
              have HNO : Hid (∀ q, q + 1 < j2 → O.getD q 0 ≠ x) := fun q hq e => by
                rcases HJ2.out with ⟨h1, h2⟩ | ⟨q2, h1, h2, h3⟩
                · rw [h1] at hq
                  rcases HJ.out with h0 | ⟨i', hi', he⟩
                  · omega
                  · exact HOR.out i' k (j - 1) q (by rw [← HPP.out]; exact hlt) hi' (by rw [← HRR.out]; omega) (by omega) he (by rw [e, HXL.out])
                · have hqr : q < O.length := by rw [← HRR.out]; omega
                  have hq2r : q2 < O.length := by rw [← HRR.out]; omega
                  have : q = q2 := (List.getElem?_inj hqr HND.out).1 (by
                    rw [List.getElem?_eq_getElem hqr, List.getElem?_eq_getElem hq2r]
                    simp only [List.getD_eq_getElem?_getD, List.getElem?_eq_getElem hqr, List.getElem?_eq_getElem hq2r, Option.getD_some] at e h3
                    rw [e, h3])
                  omega
              have HJN : Hid (j2 = 0 ∨ ∃ i', i' < k + 1 ∧ O.getD (j2 - 1) 0 = L.getD i' 0) := by
                rcases HJ2.out with ⟨h1, h2⟩ | ⟨q2, h1, h2, h3⟩
                · rw [h1]
                  rcases HJ.out with h0 | ⟨i', hi', he⟩
                  · exact .inl h0
                  · exact .inr ⟨i', by omega, he⟩
                · exact .inr ⟨k, by omega, by rw [h2, Nat.add_sub_cancel, h3, HXL.out]⟩
              have HB1 := HBr
              clear HBr hxc HJ2
              go_wp2
              go_loopw [14] (fun i wr => ∃ (k3 : Nat), (k3 = 0 ∨ k3 + 1 ≤ j2) ∧ i = .int .i64 k3 ∧ Hid (Below w5.heap.size w5 wr)) (fun i _ => j2 - (Go.RowKit.intOf i).toNat)
              case atStart => exact ⟨0, .inl rfl, rfl, HB1.out⟩
              case round =>
                obtain ⟨k3, hk3, rfl, HBr⟩ := hrel
                have hxc := HX.out wr HBr.out
                by_cases hlt3 : k3 + 1 < j2
                · obtain ⟨ob, oo, rfl, hoc⟩ := HCO.out wr HBr.out k3 (by omega)
                  obtain ⟨y, hy⟩ : ∃ y, y = O.getD k3 0 := ⟨_, rfl⟩
                  rw [← hy] at hoc
                  have hq : (y == x) = false := by
                    have := HNO.out k3 hlt3
                    rw [← hy] at this
                    simpa using this
                  clear hy
                  have hltI3 : (k3 : Int) < (j2 : Int) - 1 := by omega
                  have hrI3 : (k3 : Int) < (k2 : Int) := by omega
                  have hrI4 : k3 < k2 := by omega
                  clear hk3
                  go_wp2
                  go_quiet (fail)
                  go_wp2
                  go_roundw
                  case rel => exact ⟨k3 + 1, .inr (by omega), by go_num, below_drewN HBr.out _⟩
                  case measure => simp [Go.RowKit.intOf]; omega
                · have hltI3 : ¬ (k3 : Int) < (j2 : Int) - 1 := by omega
                  clear hk3
                  go_wp2
                  go_roundw
                  case rel => exact ⟨k + 1, j2, by omega, hj2, rfl, by go_num, HJN.out, HBr.out⟩
                  case measure => simp [Go.RowKit.intOf]; omega
        · have hke : k = p := by omega
          subst hke
          go_wp2
          go_ret
          exact ⟨rfl, HWW.out _ HBr.out⟩

set_option maxRecDepth 100000 in
theorem sqord_lifted (os : Os) (started : os.Started) (H : Type) (enc : TypeId × Value → H) :
    ReturnsInHanded {} Try.checked os 5 .any (Rows.fnSeqOrderSpec.pre6 enc Try.prog Try.f5 Rows.fnSeqOrderRow.domain false) (Rows.fnSeqOrderSpec.post enc Try.prog Try.f5 false true false false) := by
  refine returnsInHanded_of_change (C := Try.checked) own started (by kernel_rfl) Try.func5
    (ChangeSpec.witness6 (enc := enc) (C := Try.checked) false ⟨#[], #[.slice none 0 0], []⟩ 8 (by kernel_rfl) (by kernel_rfl) (by kernel_rfl) (by kernel_rfl)) ?_
  intro W base args ds gs before hval0 hW hcnd _
  have hval : ∀ (j : Nat) t v, Try.f5.params[j]? = some t → args[j]? = some v → Value.okWide Try.prog W .any base t v := hval0
  have hW' := hW
  obtain ⟨p, q, hA0, hV, rfl, hfz, hnd⟩ := hW
  have hA : DataW.TrodAll enc Try.prog W 0 (fun _ => true) true Try.f5.params.toList args.toList ds p := hA0
  rw [Try.params5] at hA hval
  obtain ⟨v0, vs0, d0, ds0, p0, q0, hargs, rfl, rfl, h0, r0⟩ := trodAll_cons hA
  obtain ⟨rfl, rfl, rfl⟩ := trodAll_nil r0
  obtain rfl : args = #[v0] := by cases args; simp_all
  obtain ⟨rfl, rfl⟩ := trodVars_none hV
  obtain ⟨a0, len0, cap0, rfl⟩ := okWide_slice Try.underlying22 (hval 0 22 v0 rfl rfl)
  have k0 := h0
  have lt0 : ∀ x ∈ p0, x.block < W.heap.size := by obtain ⟨m, hm⟩ := k0; exact DataW.trod_lt m _ _ _ hm
  obtain ⟨Z, w0⟩ : ∃ Z, IsU8 W a0 len0 cap0 Z := by
    obtain ⟨fuel, hf⟩ := h0
    obtain ⟨a, len, cap, Z, e, hI⟩ := open_u8 (by simpa [Value.cells] using hf)
    simp at e
    obtain ⟨rfl, rfl, rfl⟩ := e
    exact ⟨Z, hI⟩
  clear hA0 hval0
  refine (sqord_walk W w0).mono fun e W' ⟨he, bel⟩ => ?_
  subst he
  exact ⟨_, rfl, _, _, _, [], _, [], hW', trodAll_mk1 (shut_bool Try.underlying4 _), (trodAll_cons_mk (Below.trod laidOut (by kernel_rfl) (of_decide_eq_true (by kernel_rfl)) k0 bel lt0) trodAll_mk0), rfl, bel.frame _, fun h => by cases h⟩

theorem sqord_proved : Rows.FnSeqOrderSaid :=
  OpenClaim.holds_of_wide 5 Try.f5 rfl rfl rfl rfl rfl rfl rfl ⟨rfl, rfl, rfl, rfl, rfl⟩ rfl rfl rfl rfl rfl (by kernel_rfl) Try.func5 (by kernel_rfl)
    (of_decide_eq_true (by kernel_rfl)) (by unfold Func.isWrapper; first | (rw [if_pos (by decide +kernel)]; kernel_rfl) | (rw [if_neg (by decide +kernel)]; exact ⟨rfl, rfl⟩))
    (fun os started H enc _ => sqord_lifted os started H enc)
#print axioms sqord_proved
end Go.Proofs.Ytjfciokpnhnhbaa
