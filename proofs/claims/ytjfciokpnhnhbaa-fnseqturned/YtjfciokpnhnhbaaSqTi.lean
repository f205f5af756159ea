/-
  The program's SeqTurned. No condition but that the slice reads.
-/
import Derived.Test.YtjfciokpnhnhbaaSqTu
namespace Go.Proofs.Ytjfciokpnhnhbaa
open Go.RowKit
set_option linter.unusedVariables false

theorem results_ttt {P : Program} {fn : Func} {u v x : Tmp} (h : fn.results = #[.tmp u, .tmp v, .tmp x]) (tmps : Array Value) (w : World) :
    (results fn tmps).run P w = .ok (.tuple #[tmps.getD u undef, tmps.getD v undef, tmps.getD x undef]) w := by
  simp only [results, h]
  simp

set_option maxRecDepth 10000 in
set_option maxHeartbeats 8000000 in
theorem implTurned_any (a : Option Addr) (len cap : Nat) (D : Nat → Ev) (author : Int) (t : ByteArray) (ht : t.size ≤ 9223372036854775807) (W : World) (h : IsEvs W a len cap D) (hF : ∀ i, i < len → (D i).in) :
    Calls Try.prog 9 #[.slice a len cap, .int .i64 author, .string t] W (TP (tuR D len author t) len W) := by
  have HE : Hid (IsEvs W a len cap D) := h
  have HFF : Hid (∀ i, i < len → (D i).in) := hF
  clear h hF
  go_enter Try.func9, Try.ntmps9
  go_wp2_with fail
  refine (implSeq_any a len cap D W HE.out HFF.out).mono ?_
  rintro e w1 ⟨rfl, hB1⟩
  have HB1 : Hid (Below W.heap.size W w1) := hB1
  clear hB1
  obtain ⟨s, hs⟩ : ∃ s, s = seqB D len := ⟨_, rfl⟩
  rw [← hs]
  cases s with
  | false =>
    have HN : Hid (tuR D len author t = none) := tuR_no (by unfold tuG; rw [← hs]; rfl)
    clear hs
    go_wp2
    refine bodyPost_ret (results_ttt (u := 6) (v := 7) (x := 8) rfl _ _) rfl ?_
    exact TP.no HN.out HB1.out
  | true =>
    have HS : Hid (seqB D len = true) := hs.symm
    clear hs
    go_wp2_with fail
    refine (authorOk_any author w1).mono ?_
    rintro e wq ⟨rfl, hwq⟩
    rw [hwq]
    clear hwq wq
    obtain ⟨s, hs⟩ : ∃ s, s = inB 1 9 author := ⟨_, rfl⟩
    rw [← hs]
    cases s with
    | false =>
      have HN : Hid (tuR D len author t = none) := tuR_no (by unfold tuG; rw [← hs, Bool.and_false]; rfl)
      clear hs
      go_wp2
      refine bodyPost_ret (results_ttt (u := 6) (v := 7) (x := 8) rfl _ _) rfl ?_
      exact TP.no HN.out HB1.out
    | true =>
      have HA : Hid (inB 1 9 author = true) := hs.symm
      clear hs
      by_cases h40 : 40 < t.size
      · have HN : Hid (tuR D len author t = none) := tuR_no (by unfold tuG; rw [decide_eq_false (by omega), Bool.and_false])
        have h40I : (40 : Int) < (t.size : Int) := by omega
        go_wp2
        refine bodyPost_ret (results_ttt (u := 6) (v := 7) (x := 8) rfl _ _) rfl ?_
        exact TP.no HN.out HB1.out
      · have HTG : Hid (tuG D len author t = true) := by show _ = _; unfold tuG; rw [HS.out, HA.out, decide_eq_true (by omega)]; rfl
        have h40I : ¬ (40 : Int) < (t.size : Int) := by omega
        go_wp2_with fail
        refine (implText_any a len cap D w1 (HE.out.below HB1.out) HFF.out).mono ?_
        rintro e w2 ⟨rfl, hB2⟩
        have HB2 : Hid (Below W.heap.size W w2) := HB1.out.trans (hB2.mono HB1.out.size)
        clear hB2
        obtain ⟨o, ho⟩ : ∃ o, o = textR D len := ⟨_, rfl⟩
        have HO : Hid (o = textR D len) := ho
        have ho40 : o.size ≤ 40 := by rw [ho]; exact textR_len D len HS.out
        rw [← ho]
        clear ho
        go_wp2_with fail
        refine (commonBeginning_any o t (by omega) (by omega) w2).mono ?_
        rintro e w3 ⟨rfl, hB3⟩
        have HB3 : Hid (Below W.heap.size W w3) := HB2.out.trans (hB3.mono HB2.out.size)
        clear hB3
        obtain ⟨b, hb⟩ : ∃ b, b = cb o t := ⟨_, rfl⟩
        have HBB : Hid (b = cb o t) := hb
        have hble : b ≤ o.size ∧ b ≤ t.size := by rw [hb]; exact cb_le o t
        rw [← hb]
        clear hb
        obtain ⟨q, hq⟩ : ∃ q, q = ce o t b := ⟨_, rfl⟩
        have HQ : Hid (q = ce o t b) := hq
        have hqle : q ≤ o.size - b ∧ q ≤ t.size - b := by rw [hq]; exact ce_le o t b
        have e1 : (o.extract b o.size).size = o.size - b := by rw [ByteArray.size_extract]; omega
        have e2 : (t.extract b t.size).size = t.size - b := by rw [ByteArray.size_extract]; omega
        have HX : Hid (∀ u : Later w3, Calls Try.prog 27 #[.string (o.extract b o.size), .string (t.extract b t.size)] u.val fun e w' => e = .returned (.int .i64 q) ∧ Below u.val.heap.size u.val w') := fun u => by
          have := commonEnd_any (o.extract b o.size) (t.extract b t.size) (by omega) (by omega) u.val
          rw [ce_cut, ← hq] at this
          exact this
        have hne := Later.any w3
        clear hq e1 e2
        go_wp2
        refine wp_region_later (by kernel_rfl) (by kernel_rfl) ?_
        repeat (go_big_quiet_step (first | (rename_i u; with_reducible exact Calls.later (HX.out u))))
        refine wpQuiet_nil ?_
        rintro w4 ⟨u, hu⟩
        have HB4 : Hid (Below W.heap.size W w4) := by rw [hu]; exact HB3.out.trans (u.ok.mono HB3.out.size)
        clear hu u hne HX
        go_wp2_with fail
        refine (cloneE_any a len cap D w4 (HE.out.below HB4.out) (by have := (seqB_parts HS.out).1; omega)).mono ?_
        rintro e w5 ⟨v5, rfl, hO5, hB5⟩
        have HB5 : Hid (Below W.heap.size W w5) := HB4.out.trans (hB5.mono HB4.out.size)
        have HO5 : Hid (OwnV w5 W.heap.size v5 (listD D len)) := hO5.base HB4.out.size
        have HG5 : Hid (Good (listD D len)) := by
          refine ⟨by rw [listD_len]; exact (seqB_parts HS.out).1, fun i hi => ?_⟩
          rw [listD_len] at hi
          unfold gD
          rw [listD_at D len i hi]
          exact HFF.out i hi
        clear hO5 hB5
        obtain ⟨n, hn⟩ : ∃ n : Nat, n = o.size - b - q := ⟨_, rfl⟩
        have HNN : Hid (n = tuN (textR D len) t ∧ b = cb (textR D len) t ∧ q = ce (textR D len) t b) := by
          refine ⟨?_, by rw [HBB.out, HO.out], by rw [HQ.out, HO.out]⟩
          unfold tuN
          rw [hn, ← HO.out, ← HBB.out, ← HQ.out]
        have hnI : (o.size : Int) - (b : Int) - (q : Int) = (n : Int) := by omega
        have hAf : Hid (tuR D len author t = itW author t (tuM (textR D len) t) b (itD author (b : Int) n (listD D len))) := by
          show _ = _
          rw [tuR_yes HTG.out, ← HNN.out.1, ← HNN.out.2.1]
        clear hn
        go_wp2
        go_loopw [12, 13, 48] (fun v y i wr => ∃ (k : Nat) (A : List Ev) (v' : Value), k ≤ n ∧ i = .int .i64 k ∧ y = .bool true ∧ v' = v ∧ Hid (OwnV wr W.heap.size v' A ∧ Good A ∧ itD author (b : Int) (n - k) A = itD author (b : Int) n (listD D len) ∧ (∃ O, A = listD D len ++ O) ∧ Below W.heap.size W wr)) (fun _ _ i _ => n - (Go.RowKit.intOf i).toNat)
        case atStart => exact ⟨0, _, _, Nat.zero_le _, rfl, rfl, rfl, HO5.out, HG5.out, rfl, ⟨[], by simp⟩, HB5.out⟩
        case round =>
          obtain ⟨k, A, v, hk, rfl, rfl, rfl, HI⟩ := hrel
          obtain ⟨va, vc, hv, hE⟩ := HI.out.1.evs
          by_cases hlt : k < n
          · have hltI : (k : Int) < (n : Int) := by omega
            subst hv
            have HD : Hid (IsEvs wr va A.length vc (gD A)) := hE
            clear hE
            go_wp2_with fail
            refine (implDeleted_any va A.length vc (gD A) author (b : Int) wr HD.out HI.out.2.1.2).mono ?_
            rintro e w6 ⟨v6, rfl, hO6, hB6⟩
            obtain ⟨x6, hx6⟩ : ∃ x6 : Value, x6 = .agg (enc4 (if okD (gD A) A.length author (b : Int) then opD (gD A) A.length author (b : Int) else evZ)).toArray := ⟨_, rfl⟩
            rw [← hx6]
            clear hx6
            obtain ⟨s, hs⟩ : ∃ s, s = okD (gD A) A.length author (b : Int) := ⟨_, rfl⟩
            rw [← hs] at hO6 ⊢
            have HB6 : Hid (Below W.heap.size W w6) := HI.out.2.2.2.2.trans (hB6.mono HI.out.2.2.2.2.size)
            cases s with
            | false =>
              have HN : Hid (tuR D len author t = none) := by
                show _ = _
                rw [hAf.out, ← HI.out.2.2.1, show n - k = (n - k - 1) + 1 by omega, itD_no (stD_no hs.symm)]
                rfl
              clear hs hO6 hB6 HI HD
              go_wp2
              refine bodyPost_ret (results_ttt (u := 6) (v := 7) (x := 8) rfl _ _) rfl ?_
              exact TP.no HN.out HB6.out
            | true =>
              obtain ⟨B, hB⟩ : ∃ B, B = A ++ [opD (gD A) A.length author (b : Int)] := ⟨_, rfl⟩
              have hst := stD_ok hs.symm
              rw [← hB] at hst
              have HR : Hid (OwnV w6 W.heap.size v6 B ∧ Good B ∧ itD author (b : Int) (n - (k + 1)) B = itD author (b : Int) n (listD D len) ∧ (∃ O, B = listD D len ++ O) ∧ Below W.heap.size W w6) := by
                refine ⟨?_, (stD_some HI.out.2.1 hst).1, ?_, ?_, HB6.out⟩
                · have := hO6.base HI.out.2.2.2.2.size
                  rw [if_pos rfl, listD_gD, ← hB] at this
                  exact this
                · rw [← HI.out.2.2.1, show n - k = (n - (k + 1)) + 1 by omega, itD_yes hst]
                · obtain ⟨O, hO⟩ := HI.out.2.2.2.1
                  exact ⟨O ++ [opD (gD A) A.length author (b : Int)], by rw [hB, ← List.append_assoc, ← hO]⟩
              clear hs hO6 hB6 hst HI HD hB
              go_wp2
              go_roundw
              case rel => exact ⟨k + 1, B, _, by omega, by go_num, rfl, rfl, HR.out⟩
              case measure => simp [Go.RowKit.intOf]; omega
          · have hltI : ¬ (k : Int) < (n : Int) := by omega
            have hkn : k = n := by omega
            subst hkn
            obtain ⟨m, hm⟩ : ∃ m : Nat, m = t.size - q := ⟨_, rfl⟩
            have hmI : (t.size : Int) - (q : Int) = (m : Int) := by omega
            have hbm : b ≤ m := by omega
            have hmt : m ≤ t.size := by omega
            have HAf2 : Hid (tuR D len author t = itI author t (m - b) b A) := by
              have e0 : itD author (b : Int) (k - k) A = some A := by rw [Nat.sub_self]; rfl
              show _ = _
              rw [hAf.out, ← HI.out.2.2.1, e0]
              show itI author t (tuM (textR D len) t) b A = _
              congr 1
              unfold tuM
              rw [← HNN.out.2.1, ← HNN.out.2.2]
              omega
            have HI2 : Hid (OwnV wr W.heap.size v A ∧ Good A ∧ (∃ O, A = listD D len ++ O) ∧ Below W.heap.size W wr) := ⟨HI.out.1, HI.out.2.1, HI.out.2.2.2.1, HI.out.2.2.2.2⟩
            clear hE hm HI hAf
            clear hv
            go_wp2
            go_loopw [12, 13, 14] (fun v y i wr => ∃ (k : Nat) (A' : List Ev) (v' : Value), b ≤ k ∧ k ≤ m ∧ i = .int .i64 k ∧ y = .bool true ∧ v' = v ∧ Hid (OwnV wr W.heap.size v' A' ∧ Good A' ∧ itI author t (m - k) k A' = itI author t (m - b) b A ∧ (∃ O, A' = listD D len ++ O) ∧ Below W.heap.size W wr)) (fun _ _ i _ => m - (Go.RowKit.intOf i).toNat)
            case atStart => exact ⟨b, A, _, Nat.le_refl _, hbm, rfl, rfl, rfl, HI2.out.1, HI2.out.2.1, rfl, HI2.out.2.2.1, HI2.out.2.2.2⟩
            case round =>
              obtain ⟨k2, A2, v2, hbk, hk2, rfl, rfl, rfl, HI⟩ := hrel
              obtain ⟨va, vc, hv2, hE2⟩ := HI.out.1.evs
              clear HI2
              by_cases hlt2 : k2 < m
              · have hlt2I : (k2 : Int) < (m : Int) := by omega
                subst hv2
                have HD : Hid (IsEvs wr va A2.length vc (gD A2)) := hE2
                obtain ⟨sg, hsg⟩ : ∃ sg, sg = t.extract k2 (k2 + 1) := ⟨_, rfl⟩
                have hsz : sg.size ≤ 9223372036854775807 := by rw [hsg, ByteArray.size_extract]; omega
                have HSG : Hid (sg = t.extract k2 (k2 + 1)) := hsg
                have hk2t : k2 + 1 ≤ t.size := by omega
                clear hE2 hsg
                go_wp2_with fail
                rw [← HSG.out]
                refine (implInserted_any va A2.length vc (gD A2) author (k2 : Int) sg hsz wr HD.out HI.out.2.1.2).mono ?_
                rintro e w6 ⟨v6, rfl, hO6, hB6⟩
                obtain ⟨x6, hx6⟩ : ∃ x6 : Value, x6 = .agg (enc4 (if okI (gD A2) A2.length author (k2 : Int) sg then opI (gD A2) A2.length author (k2 : Int) sg else evZ)).toArray := ⟨_, rfl⟩
                rw [← hx6]
                clear hx6
                obtain ⟨s, hs⟩ : ∃ s, s = okI (gD A2) A2.length author (k2 : Int) sg := ⟨_, rfl⟩
                rw [← hs] at hO6 ⊢
                have HB6 : Hid (Below W.heap.size W w6) := HI.out.2.2.2.2.trans (hB6.mono HI.out.2.2.2.2.size)
                cases s with
                | false =>
                  have HN : Hid (tuR D len author t = none) := by
                    show _ = _
                    rw [HAf2.out, ← HI.out.2.2.1, show m - k2 = (m - k2 - 1) + 1 by omega, itI_no (by rw [← HSG.out]; exact stI_no hs.symm)]
                  clear hs hO6 hB6 HI HD
                  go_wp2
                  refine bodyPost_ret (results_ttt (u := 6) (v := 7) (x := 8) rfl _ _) rfl ?_
                  exact TP.no HN.out HB6.out
                | true =>
                  obtain ⟨B, hB⟩ : ∃ B, B = A2 ++ [opI (gD A2) A2.length author (k2 : Int) sg] := ⟨_, rfl⟩
                  have hst := stI_ok hs.symm
                  rw [← hB] at hst
                  have HR : Hid (OwnV w6 W.heap.size v6 B ∧ Good B ∧ itI author t (m - (k2 + 1)) (k2 + 1) B = itI author t (m - b) b A ∧ (∃ O, B = listD D len ++ O) ∧ Below W.heap.size W w6) := by
                    refine ⟨?_, (stI_some hsz HI.out.2.1 hst).1, ?_, ?_, HB6.out⟩
                    · have := hO6.base HI.out.2.2.2.2.size
                      rw [if_pos rfl, listD_gD, ← hB] at this
                      exact this
                    · rw [← HI.out.2.2.1, show m - k2 = (m - (k2 + 1)) + 1 by omega, itI_yes (by rw [← HSG.out]; exact hst)]
                    · obtain ⟨O, hO⟩ := HI.out.2.2.2.1
                      exact ⟨O ++ [opI (gD A2) A2.length author (k2 : Int) sg], by rw [hB, ← List.append_assoc, ← hO]⟩
                  clear hs hO6 hB6 hst HI HD hB
                  go_wp2
                  go_roundw
                  case rel => exact ⟨k2 + 1, B, _, by omega, by omega, by go_num, rfl, rfl, HR.out⟩
                  case measure => simp [Go.RowKit.intOf]; omega
              · have hlt2I : ¬ (k2 : Int) < (m : Int) := by omega
                have hkm : k2 = m := by omega
                have HN : Hid (tuR D len author t = some A2) := by
                  show _ = _
                  rw [HAf2.out, ← HI.out.2.2.1, hkm, Nat.sub_self]
                  rfl
                have hlen : len ≤ A2.length := by
                  obtain ⟨O, hO⟩ := HI.out.2.2.2.1
                  rw [hO, List.length_append, listD_len]
                  omega
                clear hE2 hkm
                have hA40 : A2.length ≤ 40 := HI.out.2.1.1
                rcases HI.out.1.cases with ⟨hv0, hA0⟩ | ⟨g, c, hv0, hOE⟩
                · have hl0 : len = 0 := by rw [hA0] at hlen; simpa using hlen
                  obtain ⟨n2, hn2⟩ : ∃ n2 : Nat, n2 = A2.length := ⟨_, rfl⟩
                  have HN2 : Hid (n2 = A2.length) := hn2
                  have h02 : n2 = 0 := by rw [hn2, hA0]; rfl
                  subst hv0 hl0
                  have HE3 : Hid (IsEvs wr none (n2 - 0) 0 (gD (A2.drop 0))) := ⟨by omega, by omega, fun hp => by omega⟩
                  have e00 : n2 - 0 = 0 := by omega
                  rw [e00] at HE3
                  clear hn2 hv2 hA0 hlen
                  go_wp2_with fail
                  refine (cloneE_any none 0 0 (gD (A2.drop 0)) wr HE3.out (by omega)).mono ?_
                  rintro e w7 ⟨u7, rfl, hO7, hB7⟩
                  have HF : Hid (OwnV w7 W.heap.size (.slice none 0 0) A2 ∧ OwnV w7 W.heap.size u7 (A2.drop 0) ∧ (∀ k, ((.slice none 0 0) : Value).ownBlock = some k → u7.ownBlock ≠ some k) ∧ Below W.heap.size W w7) := by
                    refine ⟨HI.out.1.below hB7, ?_, fun k hk hk' => ?_, HI.out.2.2.2.2.trans (hB7.mono HI.out.2.2.2.2.size)⟩
                    · have e1 : listD (gD (A2.drop 0)) 0 = A2.drop 0 := by
                        have := listD_gD (A2.drop 0)
                        rw [List.length_drop, ← HN2.out, e00] at this
                        exact this
                      rw [e1] at hO7
                      exact hO7.base HI.out.2.2.2.2.size
                    · have h1 := (World.ownsRow.lt HI.out.1 k hk).2
                      have h2 := (World.ownsRow.lt hO7 k hk').1
                      omega
                  clear hO7 hB7
                  go_wp2
                  refine bodyPost_ret (results_ttt (u := 6) (v := 7) (x := 8) rfl _ _) rfl ?_
                  exact TP.yes HN.out HF.out.1 HF.out.2.1 HF.out.2.2.1 HF.out.2.2.2
                · obtain ⟨n2, hn2⟩ : ∃ n2 : Nat, n2 = A2.length := ⟨_, rfl⟩
                  have hc2 : n2 ≤ c ∧ c ≤ 9223372036854775807 := by rw [hn2]; exact hOE.caps
                  rw [← hn2] at hv0 hlen hA40
                  have HN2 : Hid (n2 = A2.length) := hn2
                  have HL : Hid (Lies wr g 0 A2 ∧ g < wr.heap.size) := ⟨hOE.lies.1, hOE.lies.2.1⟩
                  subst hv0
                  clear hn2 hOE hv2
                  by_cases hcl : c = len
                  · subst hcl
                    have HE3 : Hid (IsEvs wr (some ⟨g, 0, none⟩) (n2 - c) 0 (gD (A2.drop c))) := ⟨by omega, by omega, fun hp => by omega⟩
                    have e00 : n2 - c = 0 := by omega
                    rw [e00] at HE3
                    go_wp2_with fail
                    refine (cloneE_any (some ⟨g, 0, none⟩) 0 0 (gD (A2.drop c)) wr HE3.out (by omega)).mono ?_
                    rintro e w7 ⟨u7, rfl, hO7, hB7⟩
                    have HF : Hid (OwnV w7 W.heap.size (.slice (some ⟨g, 0, none⟩) n2 c) A2 ∧ OwnV w7 W.heap.size u7 (A2.drop c) ∧ (∀ k, ((.slice (some ⟨g, 0, none⟩) n2 c) : Value).ownBlock = some k → u7.ownBlock ≠ some k) ∧ Below W.heap.size W w7) := by
                      refine ⟨HI.out.1.below hB7, ?_, fun k hk hk' => ?_, HI.out.2.2.2.2.trans (hB7.mono HI.out.2.2.2.2.size)⟩
                      · have e1 : listD (gD (A2.drop c)) 0 = A2.drop c := by
                          have := listD_gD (A2.drop c)
                          rw [List.length_drop, ← HN2.out, e00] at this
                          exact this
                        rw [e1] at hO7
                        exact hO7.base HI.out.2.2.2.2.size
                      · have h1 := (World.ownsRow.lt HI.out.1 k hk).2
                        have h2 := (World.ownsRow.lt hO7 k hk').1
                        omega
                    clear hO7 hB7
                    go_wp2
                    refine bodyPost_ret (results_ttt (u := 6) (v := 7) (x := 8) rfl _ _) rfl ?_
                    exact TP.yes HN.out HF.out.1 HF.out.2.1 HF.out.2.2.1 HF.out.2.2.2
                  · have hcl2 : (c - len == 0) = false := by simp; omega
                    have hcl3 : 0 < c - len := by omega
                    have hcl4 : c - len ≠ 0 := by omega
                    have hcl5 : ¬ c ≤ len := by omega
                    have HE3 : Hid (IsEvs wr (some ⟨g, len * 4, none⟩) (n2 - len) (c - len) (gD (A2.drop len))) := by
                      have hE3 : IsEvs wr (some ⟨g, 0 + len * 4, none⟩) (A2.drop len).length (c - len) (gD (A2.drop len)) := (HL.out.1.drop len).evs HL.out.2 (by rw [List.length_drop]; have := HN2.out; omega) (by omega)
                      rw [Nat.zero_add, List.length_drop, ← HN2.out] at hE3
                      exact hE3
                    go_wp2_with fail
                    refine (cloneE_any (some ⟨g, len * 4, none⟩) (n2 - len) (c - len) (gD (A2.drop len)) wr HE3.out (by omega)).mono ?_
                    rintro e w7 ⟨u7, rfl, hO7, hB7⟩
                    have HF : Hid (OwnV w7 W.heap.size (.slice (some ⟨g, 0, none⟩) n2 c) A2 ∧ OwnV w7 W.heap.size u7 (A2.drop len) ∧ (∀ k, ((.slice (some ⟨g, 0, none⟩) n2 c) : Value).ownBlock = some k → u7.ownBlock ≠ some k) ∧ Below W.heap.size W w7) := by
                      refine ⟨HI.out.1.below hB7, ?_, fun k hk hk' => ?_, HI.out.2.2.2.2.trans (hB7.mono HI.out.2.2.2.2.size)⟩
                      · have e1 : listD (gD (A2.drop len)) (n2 - len) = A2.drop len := by
                          have := listD_gD (A2.drop len)
                          rw [List.length_drop, ← HN2.out] at this
                          exact this
                        rw [e1] at hO7
                        exact hO7.base HI.out.2.2.2.2.size
                      · have h1 := (World.ownsRow.lt HI.out.1 k hk).2
                        have h2 := (World.ownsRow.lt hO7 k hk').1
                        omega
                    clear hO7 hB7
                    go_wp2
                    refine bodyPost_ret (results_ttt (u := 6) (v := 7) (x := 8) rfl _ _) rfl ?_
                    exact TP.yes HN.out HF.out.1 HF.out.2.1 HF.out.2.2.1 HF.out.2.2.2
end Go.Proofs.Ytjfciokpnhnhbaa
