/-
  The statement FnSeqMergedSaid: at every code the law returns true, and the code reads afterwards as it read before. No condition.
-/
import Derived.Test.YtjfciokpnhnhbaaSqM1
import Derived.Test.YtjfciokpnhnhbaaSqM3
import Derived.Test.YtjfciokpnhnhbaaSqM4
import Derived.Test.YtjfciokpnhnhbaaOpenU5
import Derived.Test.YtjfciokpnhnhbaaRows
namespace Go.Proofs.Ytjfciokpnhnhbaa
open Go.ChangeShapes Go.WideShapes Go.ChangeAt Go.RowKit Go.Deep
set_option linter.unusedVariables false

set_option maxRecDepth 10000 in
set_option maxHeartbeats 8000000 in
theorem sqmrg_walk {a : Option Addr} {len cap : Nat} {Z : Nat → Int} (W : World) (hU : IsU8 W a len cap Z) :
    Calls Try.prog 4 #[.slice a len cap] W fun e w' => e = .returned (.bool true) ∧ Below W.heap.size W w' := by
  go_enter Try.func4, Try.ntmps4
  go_wp2_with fail
  refine (big_any a len cap W).mono ?_
  rintro e wq ⟨rfl, hwq⟩
  rw [hwq]
  clear hwq wq
  cases hbig : decide ((1048576 : Int) < (len : Int)) with
  | true =>
    go_wp2
    go_ret
    exact ⟨rfl, Below.refl _ _⟩
  | false =>
    go_wp2_with fail
    refine (drawMerged_any W hU).mono ?_
    rintro e w1 ⟨va, vb, A, B, rfl, ⟨hA1, hB1, hIA, hIB, hlA, hlB⟩, hW1⟩
    obtain ⟨ga, ca, hva, hEA⟩ := hA1.lies
    obtain ⟨gb, cb', hvb, hEB⟩ := hB1.lies
    obtain ⟨n, hn⟩ : ∃ n, n = A.length := ⟨_, rfl⟩
    obtain ⟨m, hm⟩ : ∃ m, m = B.length := ⟨_, rfl⟩
    have HN := (show Hid _ from hn)
    have HM := (show Hid _ from hm)
    rw [← hn] at hva hlA
    rw [← hm] at hvb hlB
    subst hva
    subst hvb
    have HW1 : Hid (Below W.heap.size W w1) := hW1
    have HEA : Hid (∀ w', Below w1.heap.size w1 w' → OwnE w' W.heap.size ga ca A) := fun w' hB => OwnV.below hEA hB
    have HEB : Hid (∀ w', Below w1.heap.size w1 w' → OwnE w' W.heap.size gb cb' B) := fun w' hB => OwnV.below hEB hB
    have HI : Hid (InL A ∧ InL B) := ⟨hIA, hIB⟩
    clear hn hm hW1 hA1 hB1 hEA hEB hIA hIB
    obtain ⟨ok, hok⟩ : ∃ ok, ok = mergedB A B := ⟨_, rfl⟩
    obtain ⟨M, hM⟩ : ∃ M, M = resM A B := ⟨_, rfl⟩
    have HK : Hid (ok = mergedB A B ∧ M = resM A B) := ⟨hok, hM⟩
    have HMI : Hid (∀ w', Below w1.heap.size w1 w' → Calls Try.prog 14 #[.slice (some ⟨ga, 0, none⟩) n ca, .slice (some ⟨gb, 0, none⟩) m cb'] w' fun e w'' => ∃ v, e = .returned (.tuple #[v, .bool ok]) ∧ OwnV w'' w'.heap.size v M ∧ Below w'.heap.size w' w'') := fun w' hB' => by
      rw [HN.out, HM.out, hok, hM]
      have e1 := HEA.out w' hB'
      have e2 := HEB.out w' hB'
      refine (implMerged_any ga 0 ca gb 0 cb' A B w' e1.lies.1 e1.lies.2.1 e1.caps.1 e1.caps.2 e2.lies.1 e2.lies.2.1 e2.caps.1 e2.caps.2 HI.out.1 HI.out.2).mono ?_
      rintro e w'' ⟨v, rfl, hg, hB⟩
      exact ⟨v, rfl, hg.res, hB⟩
    have HMS : Hid (∀ w', Below w1.heap.size w1 w' → Calls Try.prog 15 #[.slice (some ⟨ga, 0, none⟩) n ca, .slice (some ⟨gb, 0, none⟩) m cb'] w' fun e w'' => ∃ v, e = .returned (.tuple #[v, .bool ok]) ∧ OwnV w'' w'.heap.size v M ∧ Below w'.heap.size w' w'') := fun w' hB' => by
      rw [HN.out, HM.out, hok, hM]
      have e1 := HEA.out w' hB'
      have e2 := HEB.out w' hB'
      refine (specMerged_any ga 0 ca gb 0 cb' A B w' e1.lies.1 e1.lies.2.1 e1.caps.1 e1.caps.2 e2.lies.1 e2.lies.2.1 e2.caps.1 e2.caps.2 HI.out.1 HI.out.2).mono ?_
      rintro e w'' ⟨v, rfl, hg, hB⟩
      exact ⟨v, rfl, hg.v.res, hB⟩
    have HMR : Hid (∀ w', Below w1.heap.size w1 w' → Calls Try.prog 14 #[.slice (some ⟨gb, 0, none⟩) m cb', .slice (some ⟨ga, 0, none⟩) n ca] w' fun e w'' => ∃ v, e = .returned (.tuple #[v, .bool ok]) ∧ OwnV w'' w'.heap.size v M ∧ Below w'.heap.size w' w'') := fun w' hB' => by
      rw [HN.out, HM.out, hok, hM, ← mergedB_comm, ← resM_comm]
      have e1 := HEA.out w' hB'
      have e2 := HEB.out w' hB'
      refine (implMerged_any gb 0 cb' ga 0 ca B A w' e2.lies.1 e2.lies.2.1 e2.caps.1 e2.caps.2 e1.lies.1 e1.lies.2.1 e1.caps.1 e1.caps.2 HI.out.2 HI.out.1).mono ?_
      rintro e w'' ⟨v, rfl, hg, hB⟩
      exact ⟨v, rfl, hg.res, hB⟩
    clear hok hM
    have hokn : (ok != ok) = false := by simp
    have hoke : (ok == ok) = true := by simp
    go_wp2_with fail
    refine (HMI.out w1 (Below.refl _ _)).mono ?_
    rintro e w2 ⟨vm, rfl, hm2, hB2⟩
    have HB2 : Hid (Below w1.heap.size w1 w2) := hB2
    have HM2 : Hid (OwnV w2 w1.heap.size vm M) := hm2
    clear hm2 hB2
    go_wp2_with fail
    refine (HMS.out w2 HB2.out).mono ?_
    rintro e w3 ⟨vs, rfl, hs3, hB3⟩
    have HB3 : Hid (Below w1.heap.size w1 w3) := HB2.out.trans (hB3.mono HB2.out.size)
    have HM3 : Hid (OwnV w3 w1.heap.size vm M ∧ OwnV w3 w2.heap.size vs M) := ⟨HM2.out.below hB3, hs3⟩
    clear hs3 hB3 HB2 HM2
    go_wp2_with fail
    refine (HMR.out w3 HB3.out).mono ?_
    rintro e w4 ⟨vn, rfl, hn4, hB4⟩
    have HB4 : Hid (Below w1.heap.size w1 w4) := HB3.out.trans (hB4.mono HB3.out.size)
    have HM4 : Hid (OwnV w4 w1.heap.size vm M ∧ OwnV w4 w2.heap.size vs M ∧ OwnV w4 w3.heap.size vn M) := ⟨HM3.out.1.below hB4, HM3.out.2.below hB4, hn4⟩
    clear hn4 hB4 HB3 HM3
    go_wp2_with fail
    refine (same_any _ _ _ _ _ w4 HM4.out.1 HM4.out.2.1).mono ?_
    rintro e w5 ⟨rfl, hB5⟩
    have HB5 : Hid (Below w1.heap.size w1 w5) := HB4.out.trans (hB5.mono HB4.out.size)
    have HM5 : Hid (OwnV w5 w1.heap.size vm M ∧ OwnV w5 w2.heap.size vs M ∧ OwnV w5 w3.heap.size vn M) := ⟨HM4.out.1.below hB5, HM4.out.2.1.below hB5, HM4.out.2.2.below hB5⟩
    clear hB5 HB4 HM4
    go_wp2_with fail
    refine (same_any _ _ _ _ _ w5 HM5.out.2.2 HM5.out.1).mono ?_
    rintro e w6 ⟨rfl, hB6⟩
    have HB6 : Hid (Below w1.heap.size w1 w6) := HB5.out.trans (hB6.mono HB5.out.size)
    have HM6 : Hid (OwnV w6 w1.heap.size vm M ∧ OwnV w6 w2.heap.size vs M) := ⟨HM5.out.1.below hB6, HM5.out.2.1.below hB6⟩
    clear hB6 HB5 HM5
    cases ok with
    | false =>
      go_wp2_with fail
      refine (same_any _ _ _ _ _ w6 HM6.out.1 HM6.out.2).mono ?_
      rintro e w7 ⟨rfl, hB7⟩
      have HB7 : Hid (Below W.heap.size W w7) := HW1.out.trans ((HB6.out.trans (hB7.mono HB6.out.size)).mono HW1.out.size)
      clear hB7 HB6 HM6
      go_wp2
      go_ret
      exact ⟨rfl, HB7.out⟩
    | true =>
      have HP : Hid (mergedB A B = true ∧ M = mergeS A B) := by
        obtain ⟨k1, k2⟩ := HK.out
        refine ⟨k1.symm, ?_⟩
        rw [k2]
        unfold resM
        rw [if_pos k1.symm]
      have HMA : Hid (∀ w', Below w6.heap.size w6 w' → Calls Try.prog 14 #[vm, .slice (some ⟨gb, 0, none⟩) m cb'] w' fun e w'' => ∃ v', e = .returned (.tuple #[v', .bool true]) ∧ OwnV w'' w'.heap.size v' M ∧ Below w'.heap.size w' w'') := fun w' hB' => by
        have e2 := HEB.out w' (HB6.out.trans (hB'.mono HB6.out.size))
        have hI := mergeS_in HI.out.1 HI.out.2
        have hag := mergedB_again HP.out.1
        have hr := implMergedV W.heap.size gb cb' vm M B w' ((HM6.out.1.below hB').base HW1.out.size) e2 (fun h => (mergeS_nil HP.out.1 (by rw [← HP.out.2]; exact h)).2) (by rw [HP.out.2]; exact hI) HI.out.2 (by rw [HP.out.2]; exact hag.1)
        rw [HM.out]
        refine hr.mono ?_
        rintro e w'' ⟨v', rfl, h1, h2⟩
        rw [HP.out.2, hag.2, ← HP.out.2] at h1
        exact ⟨v', rfl, h1, h2⟩
      have HSA : Hid (∀ w', Below w1.heap.size w1 w' → Calls Try.prog 14 #[.slice (some ⟨ga, 0, none⟩) n ca, .slice (some ⟨ga, 0, none⟩) n ca] w' fun e w'' => ∃ v', e = .returned (.tuple #[v', .bool true]) ∧ OwnV w'' w'.heap.size v' A ∧ Below w'.heap.size w' w'') := fun w' hB' => by
        rw [HN.out]
        have e1 := HEA.out w' hB'
        have hs := mergedB_self (mergedB_iff.1 HP.out.1).1
        refine (implMerged_any ga 0 ca ga 0 ca A A w' e1.lies.1 e1.lies.2.1 e1.caps.1 e1.caps.2 e1.lies.1 e1.lies.2.1 e1.caps.1 e1.caps.2 HI.out.1 HI.out.1).mono ?_
        rintro e w'' ⟨v, rfl, hg, hB⟩
        have h1 := hg.res
        unfold resM at h1
        rw [if_pos hs.1, hs.2] at h1
        rw [hs.1]
        exact ⟨v, rfl, h1, hB⟩
      clear hokn hoke
      go_wp2_with fail
      refine (HMA.out w6 (Below.refl _ _)).mono ?_
      rintro e w7 ⟨vg, rfl, hg7, hB7⟩
      have HB7 : Hid (Below w1.heap.size w1 w7) := HB6.out.trans (hB7.mono HB6.out.size)
      have HM7 : Hid (OwnV w7 w1.heap.size vm M ∧ OwnV w7 w6.heap.size vg M) := ⟨HM6.out.1.below hB7, hg7⟩
      clear hg7 hB7 HB6 HM6 HMA
      go_wp2_with fail
      refine (HSA.out w7 HB7.out).mono ?_
      rintro e w8 ⟨ve, rfl, he8, hB8⟩
      have HB8 : Hid (Below w1.heap.size w1 w8) := HB7.out.trans (hB8.mono HB7.out.size)
      have HM8 : Hid (OwnV w8 w1.heap.size vm M ∧ OwnV w8 w6.heap.size vg M ∧ OwnV w8 w7.heap.size ve A) := ⟨HM7.out.1.below hB8, HM7.out.2.below hB8, he8⟩
      clear he8 hB8 HB7 HM7 HSA HMI HMS HMR
      obtain ⟨mb, mc, hvm, hEM⟩ := HM8.out.1.evs
      obtain ⟨q, hq⟩ : ∃ q, q = M.length := ⟨_, rfl⟩
      have HQ := (show Hid _ from hq)
      rw [← hq] at hvm hEM
      have HCM : Hid (∀ w', Below w8.heap.size w8 w' → ∀ k, k < q → ∃ b off, mb = some ⟨b, off, none⟩ ∧ EvAt w' b (off + k * 4) (M.getD k evZ)) := fun w' hB k hk => by
        obtain ⟨_, _, hc⟩ := IsEvs.below hEM hB
        obtain ⟨b, off, rfl, hbs, hcell⟩ := hc (by omega)
        exact ⟨b, off, rfl, hcell k hk⟩
      clear hq hEM
      subst hvm
      have hn40 : n ≤ 40 := hlA
      have hm40 : m ≤ 40 := hlB
      have hq80 : q ≤ n + m := by rw [HQ.out, HN.out, HM.out, HP.out.2]; exact mergeS_len A B
      go_wp2
      go_loopw [15] (fun i wr => ∃ (k : Nat), k ≤ n + m ∧ i = .int .i64 k ∧ Hid (Below w8.heap.size w8 wr)) (fun i _ => n + m - (Go.RowKit.intOf i).toNat)
      case atStart => exact ⟨0, Nat.zero_le _, rfl, Below.refl _ _⟩
      case round =>
        obtain ⟨k, hk, rfl, HBr⟩ := hrel
        by_cases hlt : k < n + m
        · have hltI : (k : Int) < (n : Int) + (m : Int) := by omega
          have HBz : Hid (Below w8.heap.size w8 (wr.alloc (.cells #[.int .i64 0, .int .i64 0, .int .i64 0, .string ⟨#[]⟩] 36))) := HBr.out.alloc HBr.out.size _
          by_cases hka : k < n
          · have hkaI : (k : Int) < (n : Int) := by omega
            obtain ⟨x, hx⟩ : ∃ x, x = A.getD k evZ := ⟨_, rfl⟩
            have HXM : Hid (x ∈ M) := by
              show _ ∈ _
              rw [HP.out.2, hx]
              exact (merged_mem HP.out.1).2 (.inl (by rw [List.getD_eq_getElem?_getD, List.getElem?_eq_getElem (by rw [← HN.out]; exact hka)]; simp))
            have hev := (OwnE.lies (HEA.out _ (HB8.out.trans (HBz.out.mono HB8.out.size)))).1 k (by rw [← HN.out]; exact hka)
            rw [Nat.zero_add, ← hx] at hev
            clear hx HBz
            obtain ⟨c0, c1, c2, c3⟩ := hev
            obtain ⟨w10, hw10⟩ : ∃ w10, w10 = wr.alloc (.cells #[.int .i64 x.a, .int .i64 x.b, .int .i64 x.c, .string x.d] 36) := ⟨_, rfl⟩
            have HB10 : Hid (Below w8.heap.size w8 w10) := by rw [hw10]; exact HBr.out.alloc HBr.out.size _
            have HO10 : Hid (∀ w', Below w10.heap.size w10 w' → w'.heap[wr.heap.size]? = some (.cells #[.int .i64 x.a, .int .i64 x.b, .int .i64 x.c, .string x.d] 36 (0, 0))) := fun w' hB => by
              have h1 : w10.heap[wr.heap.size]? = some (.cells #[.int .i64 x.a, .int .i64 x.b, .int .i64 x.c, .string x.d] 36 (0, 0)) := by rw [hw10]; exact heap_alloc_new _ _
              exact (hB.block _ (lt_of_block h1)).trans h1
            have HW10 := (show Hid _ from hw10)
            clear hw10
            go_wp2_with fail
            rw [← HW10.out]
            clear HW10
            obtain ⟨gx, hgx⟩ : ∃ gx, gx = wr.heap.size := ⟨_, rfl⟩
            rw [← hgx] at HO10 ⊢
            clear hgx
            go_loopw [17, 18] (fun u i wr => ∃ (k2 : Nat) (c : Bool), k2 ≤ q ∧ u = .bool c ∧ i = .int .i64 k2 ∧ Hid (c = false → ∀ j, j < k2 → M.getD j evZ ≠ x) ∧ Hid (Below w10.heap.size w10 wr)) (fun _ i _ => q - (Go.RowKit.intOf i).toNat)
            case atStart => exact ⟨0, false, Nat.zero_le _, rfl, rfl, fun _ j hj => absurd hj (Nat.not_lt_zero _), Below.refl _ _⟩
            case round =>
              obtain ⟨k2, c, hk2, rfl, rfl, HC, HB2⟩ := hrel
              have hbx := HO10.out wr HB2.out
              have b0 : wr.cell? ⟨gx, 0, none⟩ = some (.int .i64 x.a) := cellN hbx
              have b1 : wr.cell? ⟨gx, 1, none⟩ = some (.int .i64 x.b) := cellN hbx
              have b2 : wr.cell? ⟨gx, 2, none⟩ = some (.int .i64 x.c) := cellN hbx
              have b3 : wr.cell? ⟨gx, 3, none⟩ = some (.string x.d) := cellN hbx
              clear hbx
              by_cases hlt2 : k2 < q
              · obtain ⟨b, off, rfl, hev2⟩ := HCM.out wr (HB10.out.trans (HB2.out.mono HB10.out.size)) k2 hlt2
                obtain ⟨y, hy⟩ : ∃ y, y = M.getD k2 evZ := ⟨_, rfl⟩
                rw [← hy] at hev2
                have HY := (show Hid _ from hy)
                clear hy
                obtain ⟨d0, d1, d2, d3⟩ := hev2
                have hltI2 : (k2 : Int) < (q : Int) := by omega
                cases c with
                | true =>
                  go_wp2
                  go_quiet (fail)
                  go_wp2
                  go_roundw
                  case rel => exact ⟨k2 + 1, true, by omega, rfl, by go_num, fun h => by (cases h), below_drewN HB2.out _⟩
                  case measure => simp [Go.RowKit.intOf]; omega
                | false =>
                  obtain ⟨e, he⟩ : ∃ e, e = Ev.same y x := ⟨_, rfl⟩
                  have hqe := eqlE y x
                  have hg := fun op p r => guardE op p r y x
                  rw [← he] at hqe
                  have HC2 : Hid (e = false → ∀ j, j < k2 + 1 → M.getD j evZ ≠ x) := fun h j hj => by
                    rcases Nat.lt_succ_iff_lt_or_eq.1 hj with h1 | rfl
                    · exact HC.out rfl j h1
                    · intro e2
                      rw [HY.out, e2, Ev.same_refl] at he
                      rw [he] at h
                      cases h
                  clear he
                  go_wp2
                  go_quiet (fail)
                  go_wp2
                  go_roundw
                  case rel => exact ⟨k2 + 1, e, by omega, rfl, by go_num, HC2.out, below_drewN HB2.out _⟩
                  case measure => simp [Go.RowKit.intOf]; omega
              · have hke : k2 = q := by omega
                subst hke
                cases c with
                | false =>
                  exfalso
                  obtain ⟨j, hj, e⟩ := List.getElem_of_mem HXM.out
                  exact HC.out rfl j (by rw [HQ.out]; exact hj) (by rw [← e]; simp [List.getD, hj])
                | true =>
                  go_wp2
                  go_roundw
                  case rel => exact ⟨k + 1, by omega, by go_num, HB10.out.trans (HB2.out.mono HB10.out.size)⟩
                  case measure => simp [Go.RowKit.intOf]; omega
          · obtain ⟨j, hj⟩ : ∃ j, k = n + j := ⟨k - n, by omega⟩
            have hjm : j < m := by omega
            have hkj : (k : Int) - (n : Int) = (j : Int) := by omega
            have hkaI : ¬ (k : Int) < (n : Int) := by omega
            have hjI : (j : Int) < (m : Int) := by omega
            obtain ⟨x, hx⟩ : ∃ x, x = B.getD j evZ := ⟨_, rfl⟩
            have HXM : Hid (x ∈ M) := by
              show _ ∈ _
              rw [HP.out.2, hx]
              exact (merged_mem HP.out.1).2 (.inr (by rw [List.getD_eq_getElem?_getD, List.getElem?_eq_getElem (by rw [← HM.out]; exact hjm)]; simp))
            have hev := (OwnE.lies (HEB.out _ (HB8.out.trans (HBz.out.mono HB8.out.size)))).1 j (by rw [← HM.out]; exact hjm)
            rw [Nat.zero_add, ← hx] at hev
            clear hx HBz hj
            obtain ⟨c0, c1, c2, c3⟩ := hev
            obtain ⟨w10, hw10⟩ : ∃ w10, w10 = wr.alloc (.cells #[.int .i64 x.a, .int .i64 x.b, .int .i64 x.c, .string x.d] 36) := ⟨_, rfl⟩
            have HB10 : Hid (Below w8.heap.size w8 w10) := by rw [hw10]; exact HBr.out.alloc HBr.out.size _
            have HO10 : Hid (∀ w', Below w10.heap.size w10 w' → w'.heap[wr.heap.size]? = some (.cells #[.int .i64 x.a, .int .i64 x.b, .int .i64 x.c, .string x.d] 36 (0, 0))) := fun w' hB => by
              have h1 : w10.heap[wr.heap.size]? = some (.cells #[.int .i64 x.a, .int .i64 x.b, .int .i64 x.c, .string x.d] 36 (0, 0)) := by rw [hw10]; exact heap_alloc_new _ _
              exact (hB.block _ (lt_of_block h1)).trans h1
            have HW10 := (show Hid _ from hw10)
            clear hw10
            go_wp2_with fail
            rw [← HW10.out]
            clear HW10
            obtain ⟨gx, hgx⟩ : ∃ gx, gx = wr.heap.size := ⟨_, rfl⟩
            rw [← hgx] at HO10 ⊢
            clear hgx
            go_loopw [17, 18] (fun u i wr => ∃ (k2 : Nat) (c : Bool), k2 ≤ q ∧ u = .bool c ∧ i = .int .i64 k2 ∧ Hid (c = false → ∀ j, j < k2 → M.getD j evZ ≠ x) ∧ Hid (Below w10.heap.size w10 wr)) (fun _ i _ => q - (Go.RowKit.intOf i).toNat)
            case atStart => exact ⟨0, false, Nat.zero_le _, rfl, rfl, fun _ j hj => absurd hj (Nat.not_lt_zero _), Below.refl _ _⟩
            case round =>
              obtain ⟨k2, c, hk2, rfl, rfl, HC, HB2⟩ := hrel
              have hbx := HO10.out wr HB2.out
              have b0 : wr.cell? ⟨gx, 0, none⟩ = some (.int .i64 x.a) := cellN hbx
              have b1 : wr.cell? ⟨gx, 1, none⟩ = some (.int .i64 x.b) := cellN hbx
              have b2 : wr.cell? ⟨gx, 2, none⟩ = some (.int .i64 x.c) := cellN hbx
              have b3 : wr.cell? ⟨gx, 3, none⟩ = some (.string x.d) := cellN hbx
              clear hbx
              by_cases hlt2 : k2 < q
              · obtain ⟨b, off, rfl, hev2⟩ := HCM.out wr (HB10.out.trans (HB2.out.mono HB10.out.size)) k2 hlt2
                obtain ⟨y, hy⟩ : ∃ y, y = M.getD k2 evZ := ⟨_, rfl⟩
                rw [← hy] at hev2
                have HY := (show Hid _ from hy)
                clear hy
                obtain ⟨d0, d1, d2, d3⟩ := hev2
                have hltI2 : (k2 : Int) < (q : Int) := by omega
                cases c with
                | true =>
                  go_wp2
                  go_quiet (fail)
                  go_wp2
                  go_roundw
                  case rel => exact ⟨k2 + 1, true, by omega, rfl, by go_num, fun h => by (cases h), below_drewN HB2.out _⟩
                  case measure => simp [Go.RowKit.intOf]; omega
                | false =>
                  obtain ⟨e, he⟩ : ∃ e, e = Ev.same y x := ⟨_, rfl⟩
                  have hqe := eqlE y x
                  have hg := fun op p r => guardE op p r y x
                  rw [← he] at hqe
                  have HC2 : Hid (e = false → ∀ j, j < k2 + 1 → M.getD j evZ ≠ x) := fun h j hj => by
                    rcases Nat.lt_succ_iff_lt_or_eq.1 hj with h1 | rfl
                    · exact HC.out rfl j h1
                    · intro e2
                      rw [HY.out, e2, Ev.same_refl] at he
                      rw [he] at h
                      cases h
                  clear he
                  go_wp2
                  go_quiet (fail)
                  go_wp2
                  go_roundw
                  case rel => exact ⟨k2 + 1, e, by omega, rfl, by go_num, HC2.out, below_drewN HB2.out _⟩
                  case measure => simp [Go.RowKit.intOf]; omega
              · have hke : k2 = q := by omega
                subst hke
                cases c with
                | false =>
                  exfalso
                  obtain ⟨j, hj, e⟩ := List.getElem_of_mem HXM.out
                  exact HC.out rfl j (by rw [HQ.out]; exact hj) (by rw [← e]; simp [List.getD, hj])
                | true =>
                  go_wp2
                  go_roundw
                  case rel => exact ⟨k + 1, by omega, by go_num, HB10.out.trans (HB2.out.mono HB10.out.size)⟩
                  case measure => simp [Go.RowKit.intOf]; omega
        · have hke : k = n + m := by omega
          have hltI : ¬ (k : Int) < (n : Int) + (m : Int) := by omega
          clear hke
          have HB9 : Hid (Below w1.heap.size w1 wr) := HB8.out.trans (HBr.out.mono HB8.out.size)
          have HM9 : Hid (OwnV wr w1.heap.size (.slice mb q mc) M ∧ OwnV wr w6.heap.size vg M ∧ OwnV wr w7.heap.size ve A) := ⟨HM8.out.1.below HBr.out, HM8.out.2.1.below HBr.out, HM8.out.2.2.below HBr.out⟩
          have hqI : (q : Int) ≤ (n : Int) + (m : Int) := by omega
          go_wp2_with fail
          refine (same_any _ _ _ _ _ wr HM9.out.2.1 HM9.out.1).mono ?_
          rintro e w11 ⟨rfl, hB11⟩
          have HB11 : Hid (Below w1.heap.size w1 w11) := HB9.out.trans (hB11.mono HB9.out.size)
          have HM11 : Hid (OwnV w11 w7.heap.size ve A ∧ OwnV w11 W.heap.size (.slice (some ⟨ga, 0, none⟩) n ca) A) := ⟨HM9.out.2.2.below hB11, by have := HEA.out w11 HB11.out; rw [HN.out]; exact this⟩
          clear hB11
          go_wp2_with fail
          refine (same_any _ _ _ _ _ w11 HM11.out.1 HM11.out.2).mono ?_
          rintro e w12 ⟨rfl, hB12⟩
          have HB12 : Hid (Below W.heap.size W w12) := HW1.out.trans ((HB11.out.trans (hB12.mono HB11.out.size)).mono HW1.out.size)
          clear hB12
          go_wp2
          go_ret
          exact ⟨rfl, HB12.out⟩

set_option maxRecDepth 100000 in
theorem sqmrg_lifted (os : Os) (started : os.Started) (H : Type) (enc : TypeId × Value → H) :
    ReturnsInHanded {} Try.checked os 4 .any (Rows.fnSeqMergedSpec.pre6 enc Try.prog Try.f4 Rows.fnSeqMergedRow.domain false) (Rows.fnSeqMergedSpec.post enc Try.prog Try.f4 false true false false) := by
  refine returnsInHanded_of_change (C := Try.checked) own started (by kernel_rfl) Try.func4
    (ChangeSpec.witness6 (enc := enc) (C := Try.checked) false ⟨#[], #[.slice none 0 0], []⟩ 8 (by kernel_rfl) (by kernel_rfl) (by kernel_rfl) (by kernel_rfl)) ?_
  intro W base args ds gs before hval0 hW hcnd _
  have hval : ∀ (j : Nat) t v, Try.f4.params[j]? = some t → args[j]? = some v → Value.okWide Try.prog W .any base t v := hval0
  have hW' := hW
  obtain ⟨p, q, hA0, hV, rfl, hfz, hnd⟩ := hW
  have hA : DataW.TrodAll enc Try.prog W 0 (fun _ => true) true Try.f4.params.toList args.toList ds p := hA0
  rw [Try.params4] at hA hval
  obtain ⟨v0, vs0, d0, ds0, p0, q0, hargs, rfl, rfl, h0, r0⟩ := trodAll_cons hA
  obtain ⟨rfl, rfl, rfl⟩ := trodAll_nil r0
  obtain rfl : args = #[v0] := by cases args; simp_all
  obtain ⟨rfl, rfl⟩ := trodVars_none hV
  obtain ⟨a0, len0, cap0, rfl⟩ := okWide_slice Try.underlying22 (hval 0 22 v0 rfl rfl)
  have k0 := h0
  have lt0 : ∀ x ∈ p0, x.block < W.heap.size := by obtain ⟨m, hm⟩ := k0; exact DataW.trod_lt m _ _ _ hm
  obtain ⟨Z, w0⟩ : ∃ Z, IsU8 W a0 len0 cap0 Z := by
    obtain ⟨fuel, hf⟩ := h0
    obtain ⟨a, len, cap, Z, e, hI⟩ := open_u8 (by simpa [Value.cells] using hf)
    simp at e
    obtain ⟨rfl, rfl, rfl⟩ := e
    exact ⟨Z, hI⟩
  clear hA0 hval0
  refine (sqmrg_walk W w0).mono fun e W' ⟨he, bel⟩ => ?_
  subst he
  exact ⟨_, rfl, _, _, _, [], _, [], hW', trodAll_mk1 (shut_bool Try.underlying4 _), (trodAll_cons_mk (Below.trod laidOut (by kernel_rfl) (of_decide_eq_true (by kernel_rfl)) k0 bel lt0) trodAll_mk0), rfl, bel.frame _, fun h => by cases h⟩

theorem sqmrg_proved : Rows.FnSeqMergedSaid :=
  OpenClaim.holds_of_wide 4 Try.f4 rfl rfl rfl rfl rfl rfl rfl ⟨rfl, rfl, rfl, rfl, rfl⟩ rfl rfl rfl rfl rfl (by kernel_rfl) Try.func4 (by kernel_rfl)
    (of_decide_eq_true (by kernel_rfl)) (by unfold Func.isWrapper; first | (rw [if_pos (by decide +kernel)]; kernel_rfl) | (rw [if_neg (by decide +kernel)]; exact ⟨rfl, rfl⟩))
    (fun os started H enc _ => sqmrg_lifted os started H enc)
#print axioms sqmrg_proved
end Go.Proofs.Ytjfciokpnhnhbaa
