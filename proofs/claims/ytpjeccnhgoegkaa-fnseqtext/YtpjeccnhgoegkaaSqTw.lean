/-
  The statement FnSeqTextSaid: at every code the law returns true, and the code reads afterwards as it read before. No condition.
-/
import Derived.Test.YtpjeccnhgoegkaaSqOk
import Derived.Test.YtpjeccnhgoegkaaSqPm
import Derived.Test.YtpjeccnhgoegkaaHInt2
import Derived.Test.YtpjeccnhgoegkaaOpenU5
import Derived.Test.YtpjeccnhgoegkaaRows
namespace Go.Proofs.Ytpjeccnhgoegkaa
open Go.ChangeShapes Go.WideShapes Go.ChangeAt Go.RowKit Go.Deep
set_option linter.unusedVariables false

theorem drawText_any {a : Option Addr} {len cap : Nat} {Z : Nat → Int} (W : World) (hU : IsU8 W a len cap Z) :
    Calls Try.prog 16 #[.slice a len cap] W fun e w' => ∃ v A, e = .returned v ∧ OwnV w' W.heap.size v A ∧ InA A ∧ A.length ≤ 80 ∧ Below W.heap.size W w' := by
  go_enter Try.func16, Try.ntmps16
  go_wp2_with fail
  refine (drawOk_any W hU).mono ?_
  rintro e w1 ⟨v, A, rfl, H⟩
  have HH := (show Hid _ from H)
  clear H
  go_wp2
  go_ret
  exact ⟨_, A, rfl, HH.out⟩

set_option maxRecDepth 10000 in
set_option maxHeartbeats 8000000 in
theorem sqtext_walk {a : Option Addr} {len cap : Nat} {Z : Nat → Int} (W : World) (hU : IsU8 W a len cap Z) :
    Calls Try.prog 5 #[.slice a len cap] W fun e w' => e = .returned (.bool true) ∧ Below W.heap.size W w' := by
  go_enter Try.func5, Try.ntmps5
  go_wp2_with fail
  refine (big_any a len cap W).mono ?_
  rintro e wq ⟨rfl, hwq⟩
  rw [hwq]
  clear hwq wq
  cases hbig : decide ((1048576 : Int) < (len : Int)) with
  | true =>
    go_wp2
    go_ret
    exact ⟨rfl, Below.refl _ _⟩
  | false =>
    go_wp2_with fail
    refine (drawText_any W hU).mono ?_
    rintro e w1 ⟨v, A, rfl, hO1, hG, hA80, hB1⟩
    obtain ⟨va, vc, hv, hE1⟩ := hO1.evs
    subst hv
    obtain ⟨n, hn⟩ : ∃ n, n = A.length := ⟨_, rfl⟩
    obtain ⟨D, hD⟩ : ∃ D, D = gD A := ⟨_, rfl⟩
    have hE1' : IsEvs w1 va A.length vc (gD A) := hE1
    rw [← hn, ← hD] at hE1'
    have hn80 : n ≤ 80 := by omega
    have HB1 : Hid (Below W.heap.size W w1) := hB1
    have HE : Hid (∀ w', Below w1.heap.size w1 w' → IsEvs w' va n vc D) := fun w' hB => IsEvs.below hE1' hB
    have HF : Hid (∀ i, i < n → (D i).in) := by rw [hn, hD]; exact hG
    rw [← hn]
    clear hO1 hG hB1 hE1 hE1' hn hD hA80
    obtain ⟨t, ht⟩ : ∃ t, t = textR D n := ⟨_, rfl⟩
    obtain ⟨ok, hok⟩ : ∃ ok, ok = seqB D n := ⟨_, rfl⟩
    have HT := (show Hid _ from ht)
    have HOK := (show Hid _ from hok)
    clear ht hok
    have htt : (t.toList != t.toList) = false := by simp
    have htt2 : (t.toList == t.toList) = true := by simp
    have hokn : (ok != ok) = false := by simp
    have hoke : (ok == ok) = true := by simp
    go_wp2_with fail
    refine (implText_any va n vc D w1 (HE.out w1 (Below.refl _ _)) HF.out).mono ?_
    rintro e w2 ⟨rfl, hB2⟩
    rw [← HT.out]
    have HB2 : Hid (Below w1.heap.size w1 w2) := hB2
    clear hB2
    go_wp2_with fail
    refine (implIds_any va n vc D w2 (HE.out w2 HB2.out) HF.out).mono ?_
    rintro e w3 ⟨vi, rfl, hO3, hB3⟩
    have HB3 : Hid (Below w1.heap.size w1 w3) := HB2.out.trans (hB3.mono HB2.out.size)
    have HI3 : Hid (RdI w3 vi (idsR D n)) := hO3.rd
    clear hB3 hO3 HB2
    go_wp2_with fail
    refine (specText_any va n vc D w3 (HE.out w3 HB3.out) (fun i hi => (HF.out i hi).1)).mono ?_
    rintro e w4 ⟨rfl, hB4⟩
    rw [← HT.out]
    have HB4 : Hid (Below w1.heap.size w1 w4) := HB3.out.trans (hB4.mono HB3.out.size)
    have HI4 : Hid (RdI w4 vi (idsR D n)) := HI3.out.below hB4
    clear hB4 HB3 HI3
    go_wp2_with fail
    refine (specIds_any va n vc D w4 (HE.out w4 HB4.out) (fun i hi => (HF.out i hi).1)).mono ?_
    rintro e w5 ⟨vj, rfl, hO5, hB5⟩
    have HB5 : Hid (Below w1.heap.size w1 w5) := HB4.out.trans (hB5.mono HB4.out.size)
    have HI5 : Hid (RdI w5 vi (idsR D n) ∧ RdI w5 vj (idsR D n)) := ⟨HI4.out.below hB5, hO5.rd⟩
    clear hB5 hO5 HB4 HI4
    go_wp2_with fail
    refine (sameI_same vi vj (idsR D n) w5 HI5.out.1 HI5.out.2).mono ?_
    rintro e w6 ⟨rfl, hB6⟩
    have HB6 : Hid (Below w1.heap.size w1 w6) := HB5.out.trans (hB6.mono HB5.out.size)
    have HI6 : Hid (RdI w6 vi (idsR D n)) := HI5.out.1.below hB6
    clear hB6 HB5 HI5
    go_wp2_with fail
    refine (implSeq_any va n vc D w6 (HE.out w6 HB6.out) HF.out).mono ?_
    rintro e w7 ⟨rfl, hB7⟩
    rw [← HOK.out]
    have HB7 : Hid (Below w1.heap.size w1 w7) := HB6.out.trans (hB7.mono HB6.out.size)
    have HI7 : Hid (RdI w7 vi (idsR D n)) := HI6.out.below hB7
    clear hB7 HB6 HI6
    go_wp2_with fail
    refine (specSeq_any va n vc D w7 (HE.out w7 HB7.out) (fun i hi => (HF.out i hi).1)).mono ?_
    rintro e w8 ⟨rfl, hB8⟩
    rw [← HOK.out]
    have HB8 : Hid (Below w1.heap.size w1 w8) := HB7.out.trans (hB8.mono HB7.out.size)
    have HI8 : Hid (RdI w8 vi (idsR D n)) := HI7.out.below hB8
    clear hB8 HB7 HI7
    go_wp2_with fail
    refine (specSeq_any va n vc D w8 (HE.out w8 HB8.out) (fun i hi => (HF.out i hi).1)).mono ?_
    rintro e w9 ⟨rfl, hB9⟩
    rw [← HOK.out]
    have HB9 : Hid (Below w1.heap.size w1 w9) := HB8.out.trans (hB9.mono HB8.out.size)
    have HI9 : Hid (RdI w9 vi (idsR D n)) := HI8.out.below hB9
    clear hB9 HB8 HI8
    cases ok with
    | false =>
      go_wp2_with fail
      refine (specText_any va n vc D w9 (HE.out w9 HB9.out) (fun i hi => (HF.out i hi).1)).mono ?_
      rintro e w10 ⟨rfl, hB10⟩
      rw [← HT.out]
      have HB10 : Hid (Below w1.heap.size w1 w10) := HB9.out.trans (hB10.mono HB9.out.size)
      have HI10 : Hid (RdI w10 vi (idsR D n)) := HI9.out.below hB10
      clear hB10 HB9 HI9
      go_wp2_with fail
      refine (specIds_any va n vc D w10 (HE.out w10 HB10.out) (fun i hi => (HF.out i hi).1)).mono ?_
      rintro e w11 ⟨vk, rfl, hO11, hB11⟩
      have HB11 : Hid (Below w1.heap.size w1 w11) := HB10.out.trans (hB11.mono HB10.out.size)
      have HI11 : Hid (RdI w11 vi (idsR D n) ∧ RdI w11 vk (idsR D n)) := ⟨HI10.out.below hB11, hO11.rd⟩
      clear hB11 hO11 HB10 HI10
      go_wp2_with fail
      refine (sameI_same vi vk (idsR D n) w11 HI11.out.1 HI11.out.2).mono ?_
      rintro e w12 ⟨rfl, hB12⟩
      have HB12 : Hid (Below w1.heap.size w1 w12) := HB11.out.trans (hB12.mono HB11.out.size)
      clear hB12 HB11 HI11
      go_wp2_with fail
      refine (implSeq_any va n vc D w12 (HE.out w12 HB12.out) HF.out).mono ?_
      rintro e w13 ⟨rfl, hB13⟩
      rw [← HOK.out]
      have HB13 : Hid (Below w1.heap.size w1 w13) := HB12.out.trans (hB13.mono HB12.out.size)
      clear hB13 HB12
      go_wp2_with fail
      refine (specSeq_any va n vc D w13 (HE.out w13 HB13.out) (fun i hi => (HF.out i hi).1)).mono ?_
      rintro e w14 ⟨rfl, hB14⟩
      rw [← HOK.out]
      have HB14 : Hid (Below W.heap.size W w14) := HB1.out.trans ((HB13.out.trans (hB14.mono HB13.out.size)).mono HB1.out.size)
      clear hB14 HB13
      go_wp2
      go_ret
      exact ⟨rfl, HB14.out⟩
    | true =>
      obtain ⟨L, hL⟩ : ∃ L, L = idsR D n := ⟨_, rfl⟩
      have HL := (show Hid _ from hL)
      rw [← hL] at HI9
      clear hL
      obtain ⟨ia, ic, hvi, hil, him, hic⟩ := HI9.out
      obtain ⟨m, hm⟩ : ∃ m, m = L.length := ⟨_, rfl⟩
      have HM := (show Hid _ from hm)
      rw [← hm] at hvi hil hic
      clear hm
      subst hvi
      have HS : Hid (seqB D n = true) := HOK.out.symm
      have hm40 : m ≤ 40 := by rw [HM.out, HL.out]; exact idsR_len _ _
      have hts : t.size = m := by rw [HT.out, HM.out, HL.out]; exact text_size HS.out
      have HC : Hid (∀ w', Below w9.heap.size w9 w' → ∀ k, k < n → ∃ b off, va = some ⟨b, off, none⟩ ∧ EvAt w' b (off + k * 4) (D k)) := fun w' hB k hk => by
        obtain ⟨hlc, hcm, hc⟩ := HE.out w' (HB9.out.trans (hB.mono HB9.out.size))
        obtain ⟨b, off, rfl, hbs, hcell⟩ := hc (by omega)
        exact ⟨b, off, rfl, hcell k hk⟩
      have HCI : Hid (∀ w', Below w9.heap.size w9 w' → ∀ k, k < m → ∃ b off, ia = some ⟨b, off, none⟩ ∧ w'.cell? ⟨b, off + k, none⟩ = some (.int .i64 (L.getD k 0))) := fun w' hB k hk => by
        obtain ⟨b, off, rfl, hbs, hcell⟩ := hic (by omega)
        exact ⟨b, off, rfl, (hB.cell (p := ⟨b, off + k, none⟩) hbs).trans (hcell k hk)⟩
      have HWW : Hid (∀ w', Below w9.heap.size w9 w' → Below W.heap.size W w') := fun w' hB => HB1.out.trans ((HB9.out.trans (hB.mono HB9.out.size)).mono HB1.out.size)
      obtain ⟨hlc, hcm, hc⟩ := HE.out w9 HB9.out
      clear hc hic hokn hoke htt htt2 HE HF HI9
      have HTS := (show Hid _ from hts)
      go_wp2
      go_loopw [6, 7] (fun many i wr => ∃ (k j : Nat), k ≤ n ∧ j ≤ k ∧ many = .int .i64 j ∧ i = .int .i64 k ∧ Hid (j = (livL D n k).length) ∧ Hid (Below w9.heap.size w9 wr)) (fun _ i _ => n - (Go.RowKit.intOf i).toNat)
      case atStart => exact ⟨0, 0, Nat.zero_le _, Nat.zero_le _, rfl, rfl, rfl, Below.refl _ _⟩
      case round =>
        obtain ⟨k, j, hk, hjk, rfl, rfl, HJ, HBr⟩ := hrel
        by_cases hlt : k < n
        · obtain ⟨w10, hw10⟩ : ∃ w10, w10 = wr := ⟨_, rfl⟩
          rw [← hw10] at HBr ⊢
          clear hw10 wr
          obtain ⟨b, off, rfl, hev⟩ := HC.out w10 HBr.out k hlt
          obtain ⟨x, hx⟩ : ∃ x, x = D k := ⟨_, rfl⟩
          rw [← hx] at hev
          have HX := (show Hid _ from hx)
          clear hx
          have hltI : (k : Int) < (n : Int) := by omega
          have HEV : Hid (∀ w', Below w9.heap.size w9 w' → EvAt w' b (off + k * 4) x) := fun w' hB => by
            obtain ⟨b', off', hbo, hev2⟩ := HC.out w' hB k hlt
            simp only [Option.some.injEq, Addr.mk.injEq, and_true] at hbo
            obtain ⟨rfl, rfl⟩ := hbo
            rw [HX.out]
            exact hev2
          obtain ⟨c0, c1, c2, c3⟩ := hev
          obtain ⟨g0, hg0⟩ : ∃ g0, (x.b != 1) = g0 := ⟨_, rfl⟩
          go_wp2
          go_loopw [8, 9] (fun u i wr => ∃ (k2 : Nat) (c : Bool), k2 ≤ n ∧ u = .bool c ∧ i = .int .i64 k2 ∧ Hid (c = (g0 || delB D k2 x.a)) ∧ Hid (Below w9.heap.size w9 wr)) (fun _ i _ => n - (Go.RowKit.intOf i).toNat)
          case atStart => exact ⟨0, g0, Nat.zero_le _, rfl, rfl, by show g0 = (g0 || false); simp, HBr.out⟩
          case round =>
            obtain ⟨k2, c, hk2, rfl, rfl, HCC, HWr⟩ := hrel
            clear c0 c1 c2 c3
            obtain ⟨c0, c1, c2, c3⟩ := HEV.out wr HWr.out
            by_cases hlt2 : k2 < n
            · obtain ⟨b', off', hbo, hev2⟩ := HC.out wr HWr.out k2 hlt2
              simp only [Option.some.injEq, Addr.mk.injEq, and_true] at hbo
              obtain ⟨rfl, rfl⟩ := hbo
              obtain ⟨y, hy⟩ : ∃ y, y = D k2 := ⟨_, rfl⟩
              rw [← hy] at hev2
              have HN : Hid ((c || (y.b == 2 && y.c == x.a)) = (g0 || delB D (k2 + 1) x.a)) := by
                show _ = _
                rw [delB_succ, HCC.out, ← hy, Bool.or_assoc]
              clear hy HCC
              have hltI2 : (k2 : Int) < (n : Int) := by omega
              obtain ⟨d0, d1, d2, d3⟩ := hev2
              cases c with
              | true =>
                go_wp2
                go_quiet (fail)
                go_wp2
                go_roundw
                case rel => exact ⟨k2 + 1, true, by omega, rfl, by go_num, HN.out, below_drewN HWr.out _⟩
                case measure => simp [Go.RowKit.intOf]; omega
              | false =>
                cases hb2 : (y.b == 2) with
                | false =>
                  rw [hb2] at HN
                  go_wp2
                  go_quiet (fail)
                  go_wp2
                  go_roundw
                  case rel => exact ⟨k2 + 1, false, by omega, rfl, by go_num, HN.out, below_drewN HWr.out _⟩
                  case measure => simp [Go.RowKit.intOf]; omega
                | true =>
                  obtain ⟨e2, he2⟩ : ∃ e2, (y.c == x.a) = e2 := ⟨_, rfl⟩
                  rw [hb2, he2] at HN
                  go_wp2
                  go_quiet (fail)
                  go_wp2
                  go_roundw
                  case rel => exact ⟨k2 + 1, e2, by omega, rfl, by go_num, HN.out, below_drewN HWr.out _⟩
                  case measure => simp [Go.RowKit.intOf]; omega
            · have hke : k2 = n := by omega
              subst hke
              cases c with
              | true =>
                have HL1 : Hid (j = (livL D k2 (k + 1)).length) := by
                  show _ = _
                  rw [livL_succ, ← HX.out, if_neg, List.append_nil]
                  · exact HJ.out
                  · intro h
                    simp only [Bool.and_eq_true, beq_iff_eq, Bool.not_eq_true'] at h
                    have h3 := HCC.out
                    rw [h.2, Bool.or_false, ← hg0, h.1] at h3
                    cases h3
                go_wp2
                go_roundw
                case rel => exact ⟨k + 1, j, by omega, by omega, rfl, by go_num, HL1.out, HWr.out⟩
                case measure => simp [Go.RowKit.intOf]; omega
              | false =>
                have hcc := HCC.out.symm
                rw [Bool.or_eq_false_iff] at hcc
                have HL1 : Hid (j + 1 = (livL D k2 (k + 1)).length) := by
                  show _ = _
                  have h1 : (x.b == 1) = true := by
                    have := hcc.1
                    rw [← hg0] at this
                    simpa using this
                  rw [livL_succ, ← HX.out, if_pos (by rw [h1, hcc.2]; rfl), List.length_append, ← HJ.out]
                  rfl
                have HIN : Hid (x.a ∈ L) := by
                  show _ ∈ _
                  rw [HL.out]
                  refine (ids_mem HS.out).2 ⟨insB_iff.2 ⟨k, hlt, ?_, by rw [← HX.out]⟩, hcc.2⟩
                  have := hcc.1
                  rw [← hg0] at this
                  rw [← HX.out]
                  simpa using this
                clear hcc HCC
                have HW11 := HWr
                go_wp2
                go_loopw [10, 11] (fun u i wr => ∃ (k3 : Nat) (z : Int), k3 ≤ m ∧ u = .int .i64 z ∧ i = .int .i64 k3 ∧ Hid ((z = -1 ∧ ∀ q, q < k3 → L.getD q 0 ≠ x.a) ∨ (∃ q : Nat, q < k3 ∧ z = (q : Int) ∧ L.getD q 0 = x.a)) ∧ Hid (Below w9.heap.size w9 wr)) (fun _ i _ => m - (Go.RowKit.intOf i).toNat)
                case atStart => exact ⟨0, -1, Nat.zero_le _, rfl, rfl, .inl ⟨rfl, fun q hq => absurd hq (Nat.not_lt_zero _)⟩, HW11.out⟩
                case round =>
                  obtain ⟨k3, z, hk3, rfl, rfl, HZ, HBz⟩ := hrel
                  have hev3 := HEV.out wr HBz.out
                  by_cases hlt3 : k3 < m
                  · obtain ⟨ib, io, rfl, hci⟩ := HCI.out wr HBz.out k3 hlt3
                    obtain ⟨y, hy⟩ : ∃ y, y = L.getD k3 0 := ⟨_, rfl⟩
                    rw [← hy] at hci
                    have HY := (show Hid _ from hy)
                    clear hy
                    have hltI3 : (k3 : Int) < (m : Int) := by omega
                    clear c0 c1 c2 c3
                    obtain ⟨c0, c1, c2, c3⟩ := hev3
                    cases hq : (y == x.a) with
                    | true =>
                      have HZ2 : Hid (L.getD k3 0 = x.a) := by show _ = _; rw [← HY.out]; simpa using hq
                      go_wp2
                      go_quiet (fail)
                      go_wp2
                      go_roundw
                      case rel => exact ⟨k3 + 1, (k3 : Int), by omega, rfl, by go_num, .inr ⟨k3, by omega, rfl, HZ2.out⟩, below_drewN HBz.out _⟩
                      case measure => simp [Go.RowKit.intOf]; omega
                    | false =>
                      have HZ2 : Hid (L.getD k3 0 ≠ x.a) := by show _ ≠ _; rw [← HY.out]; simpa using hq
                      have HZ3 : Hid ((z = -1 ∧ ∀ q, q < k3 + 1 → L.getD q 0 ≠ x.a) ∨ (∃ q : Nat, q < k3 + 1 ∧ z = (q : Int) ∧ L.getD q 0 = x.a)) := by
                        rcases HZ.out with ⟨h1, h2⟩ | ⟨q, h1, h2, h3⟩
                        · refine .inl ⟨h1, fun q hq => ?_⟩
                          rcases Nat.lt_succ_iff_lt_or_eq.1 hq with h | rfl
                          · exact h2 q h
                          · exact HZ2.out
                        · exact .inr ⟨q, by omega, h2, h3⟩
                      go_wp2
                      go_quiet (fail)
                      go_wp2
                      go_roundw
                      case rel => exact ⟨k3 + 1, z, by omega, rfl, by go_num, HZ3.out, below_drewN HBz.out _⟩
                      case measure => simp [Go.RowKit.intOf]; omega
                  · have hke : k3 = m := by omega
                    subst hke
                    obtain ⟨q, hq1, rfl, hq3⟩ : ∃ q : Nat, q < k3 ∧ z = (q : Int) ∧ L.getD q 0 = x.a := by
                      rcases HZ.out with ⟨h1, h2⟩ | h
                      · exfalso
                        obtain ⟨q, hq, e⟩ := List.getElem_of_mem HIN.out
                        exact h2 q (by rw [HM.out]; exact hq) (by rw [← e]; simp [List.getD, hq])
                      · exact h
                    have hxt : t.extract q (q + 1) = x.d := by
                      rw [HT.out, HX.out]
                      refine text_sign HS.out (by rw [← HL.out, ← HM.out]; exact hq1) hlt ?_
                      rw [← HL.out, hq3, HX.out]
                    clear c0 c1 c2 c3 HZ
                    obtain ⟨c0, c1, c2, c3⟩ := hev3
                    have hs1 : (q : Int) < (t.size : Int) := by rw [HTS.out]; omega
                    have hs2 : q + 1 ≤ t.size := by rw [HTS.out]; omega
                    have hdd : (x.d.toList != x.d.toList) = false := by simp
                    have g1 : decide ((q : Int) < 0) = false := decide_eq_false (by omega)
                    have g2 : decide ((t.size : Int) ≤ (q : Int)) = false := decide_eq_false (by omega)
                    have g3 : ¬ t.size ≤ q := by omega
                    have g4 : decide (t.size ≤ q) = false := decide_eq_false g3
                    clear hts hq3
                    go_wp2
                    go_quiet (fail)
                    go_wp2
                    go_roundw
                    case rel => exact ⟨k + 1, j + 1, by omega, by omega, by go_num, by go_num, HL1.out, below_drewN HBz.out _⟩
                    case measure => simp [Go.RowKit.intOf]; omega
        · have hke : k = n := by omega
          subst hke
          obtain rfl : j = m := by rw [HJ.out, HM.out, HL.out]; exact livL_len HS.out
          have hjj : ((j : Int) == (j : Int)) = true := by simp
          rw [HTS.out] at hts
          have hst : (((t.size : Nat) : Int) == (j : Int)) = true := by rw [HTS.out]; simp
          go_wp2
          go_ret
          exact ⟨rfl, HWW.out _ HBr.out⟩

set_option maxRecDepth 100000 in
theorem sqtext_lifted (os : Os) (started : os.Started) (H : Type) (enc : TypeId × Value → H) :
    ReturnsInHanded {} Try.checked os 5 .any (Rows.fnSeqTextSpec.pre6 enc Try.prog Try.f5 Rows.fnSeqTextRow.domain false) (Rows.fnSeqTextSpec.post enc Try.prog Try.f5 false true false false) := by
  refine returnsInHanded_of_change (C := Try.checked) own started (by kernel_rfl) Try.func5
    (ChangeSpec.witness6 (enc := enc) (C := Try.checked) false ⟨#[], #[.slice none 0 0], []⟩ 8 (by kernel_rfl) (by kernel_rfl) (by kernel_rfl) (by kernel_rfl)) ?_
  intro W base args ds gs before hval0 hW hcnd _
  have hval : ∀ (j : Nat) t v, Try.f5.params[j]? = some t → args[j]? = some v → Value.okWide Try.prog W .any base t v := hval0
  have hW' := hW
  obtain ⟨p, q, hA0, hV, rfl, hfz, hnd⟩ := hW
  have hA : DataW.TrodAll enc Try.prog W 0 (fun _ => true) true Try.f5.params.toList args.toList ds p := hA0
  rw [Try.params5] at hA hval
  obtain ⟨v0, vs0, d0, ds0, p0, q0, hargs, rfl, rfl, h0, r0⟩ := trodAll_cons hA
  obtain ⟨rfl, rfl, rfl⟩ := trodAll_nil r0
  obtain rfl : args = #[v0] := by cases args; simp_all
  obtain ⟨rfl, rfl⟩ := trodVars_none hV
  obtain ⟨a0, len0, cap0, rfl⟩ := okWide_slice Try.underlying22 (hval 0 22 v0 rfl rfl)
  have k0 := h0
  have lt0 : ∀ x ∈ p0, x.block < W.heap.size := by obtain ⟨m, hm⟩ := k0; exact DataW.trod_lt m _ _ _ hm
  obtain ⟨Z, w0⟩ : ∃ Z, IsU8 W a0 len0 cap0 Z := by
    obtain ⟨fuel, hf⟩ := h0
    obtain ⟨a, len, cap, Z, e, hI⟩ := open_u8 (by simpa [Value.cells] using hf)
    simp at e
    obtain ⟨rfl, rfl, rfl⟩ := e
    exact ⟨Z, hI⟩
  clear hA0 hval0
  refine (sqtext_walk W w0).mono fun e W' ⟨he, bel⟩ => ?_
  subst he
  exact ⟨_, rfl, _, _, _, [], _, [], hW', trodAll_mk1 (shut_bool Try.underlying4 _), (trodAll_cons_mk (Below.trod laidOut (by kernel_rfl) (of_decide_eq_true (by kernel_rfl)) k0 bel lt0) trodAll_mk0), rfl, bel.frame _, fun h => by cases h⟩

theorem sqtext_proved : Rows.FnSeqTextSaid :=
  OpenClaim.holds_of_wide 5 Try.f5 rfl rfl rfl rfl rfl rfl rfl ⟨rfl, rfl, rfl, rfl, rfl⟩ rfl rfl rfl rfl rfl (by kernel_rfl) Try.func5 (by kernel_rfl)
    (of_decide_eq_true (by kernel_rfl)) (by unfold Func.isWrapper; first | (rw [if_pos (by decide +kernel)]; kernel_rfl) | (rw [if_neg (by decide +kernel)]; exact ⟨rfl, rfl⟩))
    (fun os started H enc _ => sqtext_lifted os started H enc)
#print axioms sqtext_proved
end Go.Proofs.Ytpjeccnhgoegkaa
