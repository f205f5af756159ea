/-
  The text's SeqTurned. No condition but that the slice reads.
-/
import Derived.Test.YtjfciokpnhnhbaaSqTi
namespace Go.Proofs.Ytjfciokpnhnhbaa
open Go.RowKit
set_option linter.unusedVariables false

def dsK1 : List Nat := [37, 38, 39, 40, 41, 42, 43, 44, 45, 46, 47, 48, 49, 50, 51, 52, 53, 54, 55]
def dsK2 : List Nat := [58, 59, 60, 61, 62, 63, 64, 65, 66, 67, 68, 69, 70, 71, 72, 73, 74, 75, 76, 77, 78, 79, 80, 81, 82, 83, 84, 85, 86, 87, 88]
theorem cut_in {a0 t : Act} {w' : World} {ds : List Nat} {c : Nat} {Pw : World → Prop} (h : t = canon a0 ds (fun d => t.tmps.getD d undef)) (hc : t.tmps.getD c undef = .bool false) (hw : Pw w') : ∃ f, t = canon a0 ds f ∧ f c = .bool false ∧ Pw w' := ⟨_, h, hc, hw⟩
def TS (o : Option (List Ev)) (len : Nat) (W : World) (e : Ending) (w' : World) : Prop :=
  ∃ v u, e = .returned (.tuple #[v, u, .bool o.isSome]) ∧ OwnV w' W.heap.size v (o.getD []) ∧ OwnV w' W.heap.size u ((o.getD []).drop len) ∧ Below W.heap.size W w'
theorem TS.no {o : Option (List Ev)} {len : Nat} {W w' : World} (h : o = none) (hB : Below W.heap.size W w') : TS o len W (.returned (.tuple #[.slice none 0 0, .slice none 0 0, .bool false])) w' := by
  subst h
  exact ⟨_, _, rfl, OwnV.nil _ _, by rw [show (Option.getD (none : Option (List Ev)) []).drop len = [] by simp]; exact OwnV.nil _ _, hB⟩
theorem TS.yes {o : Option (List Ev)} {B : List Ev} {len : Nat} {W w' : World} {v u : Value} (h : o = some B) (hv : OwnV w' W.heap.size v B) (hu : OwnV w' W.heap.size u (B.drop len)) (hB : Below W.heap.size W w') : TS o len W (.returned (.tuple #[v, u, .bool true])) w' := by
  subst h
  exact ⟨_, _, rfl, hv, hu, hB⟩

set_option maxRecDepth 10000 in
set_option maxHeartbeats 16000000 in
theorem specTurned_any (ab ao : Nat) (len cap : Nat) (D : Nat → Ev) (author : Int) (t : ByteArray) (ht : t.size ≤ 9223372036854775807) (W : World) (h : IsEvs W (some ⟨ab, ao, none⟩) len cap D) (hF : ∀ i, i < len → (D i).in) :
    Calls Try.prog 10 #[.slice (some ⟨ab, ao, none⟩) len cap, .int .i64 author, .string t] W (TS (tuR D len author t) len W) := by
  obtain ⟨i0, hi, hz0, hz1, hz2⟩ := info_parts infoE
  have HE : Hid (IsEvs W (some ⟨ab, ao, none⟩) len cap D) := h
  have HFF : Hid (∀ i, i < len → (D i).in) := hF
  clear h hF
  go_enter Try.func10, Try.ntmps10
  go_wp2_with fail
  refine (specSeq_any (some ⟨ab, ao, none⟩) len cap D W HE.out (fun i hi => (HFF.out i hi).1)).mono ?_
  rintro e w1 ⟨rfl, hB1⟩
  have HB1 : Hid (Below W.heap.size W w1) := hB1
  clear hB1
  obtain ⟨s, hs⟩ : ∃ s, s = seqB D len := ⟨_, rfl⟩
  rw [← hs]
  cases s with
  | false =>
    have HN : Hid (tuR D len author t = none) := tuR_no (by unfold tuG; rw [← hs]; rfl)
    clear hs
    go_wp2
    refine bodyPost_ret (results_ttt (u := 6) (v := 7) (x := 8) rfl _ _) rfl ?_
    exact TS.no HN.out HB1.out
  | true =>
    have HS : Hid (seqB D len = true) := hs.symm
    clear hs
    go_wp2_with fail
    refine (in_any author 1 9 _ rfl w1).mono ?_
    rintro e wq ⟨rfl, hwq⟩
    rw [hwq]
    clear hwq wq
    obtain ⟨s, hs⟩ : ∃ s, s = inB 1 9 author := ⟨_, rfl⟩
    rw [← hs]
    cases s with
    | false =>
      have HN : Hid (tuR D len author t = none) := tuR_no (by unfold tuG; rw [← hs, Bool.and_false]; rfl)
      clear hs
      go_wp2
      refine bodyPost_ret (results_ttt (u := 6) (v := 7) (x := 8) rfl _ _) rfl ?_
      exact TS.no HN.out HB1.out
    | true =>
      have HA : Hid (inB 1 9 author = true) := hs.symm
      clear hs
      by_cases h40 : 40 < t.size
      · have HN : Hid (tuR D len author t = none) := tuR_no (by unfold tuG; rw [decide_eq_false (by omega), Bool.and_false])
        have h40I : (40 : Int) < (t.size : Int) := by omega
        go_wp2
        refine bodyPost_ret (results_ttt (u := 6) (v := 7) (x := 8) rfl _ _) rfl ?_
        exact TS.no HN.out HB1.out
      · have HTG : Hid (tuG D len author t = true) := by show _ = _; unfold tuG; rw [HS.out, HA.out, decide_eq_true (by omega)]; rfl
        have h40I : ¬ (40 : Int) < (t.size : Int) := by omega
        go_wp2_with fail
        refine (l10Text_any (some ⟨ab, ao, none⟩) len cap D w1 (HE.out.below HB1.out) HS.out).mono ?_
        rintro e w2 ⟨rfl, hB2⟩
        have HB2 : Hid (Below W.heap.size W w2) := HB1.out.trans (hB2.mono HB1.out.size)
        clear hB2
        obtain ⟨o, ho⟩ : ∃ o, o = textR D len := ⟨_, rfl⟩
        have HO : Hid (o = textR D len) := ho
        have ho40 : o.size ≤ 40 := by rw [ho]; exact textR_len D len HS.out
        rw [← ho]
        clear ho
        go_wp2
        go_loopw [10] (fun i wr => ∃ k : Nat, k ≤ o.size ∧ i = .int .i64 k ∧ Hid (cbF o t (o.size - k) k = cb o t) ∧ Hid (Below W.heap.size W wr)) (fun i _ => o.size - (Go.RowKit.intOf i).toNat)
        case atStart => exact ⟨0, Nat.zero_le _, rfl, rfl, HB2.out⟩
        case round =>
          obtain ⟨k, hk, rfl, HC, HB⟩ := hrel
          by_cases hcond : k < o.size ∧ k < t.size ∧ bt o k = bt t k
          · obtain ⟨h1, h2, h3⟩ := hcond
            have h1I : decide (k < o.size) = true := decide_eq_true (by omega)
            have h2I : decide (k < t.size) = true := decide_eq_true (by omega)
            have h3I : ((o[k].toNat : Int) == (t[k].toNat : Int)) = true := by rw [bt_in h1, bt_in h2, h3]; simp
            have HN : Hid (cbF o t (o.size - (k + 1)) (k + 1) = cb o t) := (cbF_yes ⟨h1, h2, h3⟩).symm.trans HC.out
            clear h3
            go_wp2
            go_quiet (fail)
            go_wp2
            go_roundw
            case rel => exact ⟨k + 1, by omega, by go_num, HN, below_drewN HB.out _⟩
            case measure => simp [Go.RowKit.intOf]; omega
          · have hb : cb o t = k := HC.out.symm.trans (cbF_no hcond)
            have HBB : Hid (cb o t = k) := hb
            have hble : k ≤ o.size ∧ k ≤ t.size := by rw [← hb]; exact cb_le o t
            obtain ⟨b, hbk⟩ : ∃ b, b = k := ⟨_, rfl⟩
            subst hbk
            go_wp2
            refine wp_cut_to (fun a0 t w' => ∃ f, t = canon a0 dsK1 f ∧ f 55 = .bool false ∧ ∃ n, w' = wr.drewN n) ?_ ?_
            rotate_left
            · intro J K' hJ hK
              by_cases h1 : b < o.size
              · have h1I : decide (b < o.size) = true := decide_eq_true h1
                by_cases h2 : b < t.size
                · have h2I : decide (b < t.size) = true := decide_eq_true h2
                  have h3I : ((o[b].toNat : Int) == (t[b].toNat : Int)) = false := by rw [bt_in h1, bt_in h2]; simpa using (fun h3 => hcond ⟨h1, h2, h3⟩)
                  go_quiet (fail)
                  refine hK _ _ (Met.intro (hJ _ _ ?_))
                  refine cut_in (ds := dsK1) (c := 55) (Pw := fun w' => ∃ n, w' = wr.drewN n) ?_ rfl ⟨_, rfl⟩
                  simp only [canon, dsK1, List.foldl, Act.put, List.setIfInBounds_toArray, List.set_cons_succ, List.set_cons_zero]
                  rfl
                · have h2I : decide (b < t.size) = false := decide_eq_false h2
                  go_quiet (fail)
                  refine hK _ _ (Met.intro (hJ _ _ ?_))
                  refine cut_in (ds := dsK1) (c := 55) (Pw := fun w' => ∃ n, w' = wr.drewN n) ?_ rfl ⟨_, rfl⟩
                  simp only [canon, dsK1, List.foldl, Act.put, List.setIfInBounds_toArray, List.set_cons_succ, List.set_cons_zero]
                  rfl
              · have h1I : decide (b < o.size) = false := decide_eq_false h1
                go_quiet (fail)
                refine hK _ _ (Met.intro (hJ _ _ ?_))
                refine cut_in (ds := dsK1) (c := 55) (Pw := fun w' => ∃ n, w' = wr.drewN n) ?_ rfl ⟨_, rfl⟩
                simp only [canon, dsK1, List.foldl, Act.put, List.setIfInBounds_toArray, List.set_cons_succ, List.set_cons_zero]
                rfl
            rintro _ wc ⟨f, rfl, hf, nn, hwc⟩
            simp only [canon, dsK1, List.foldl, Act.put, List.setIfInBounds_toArray, List.set_cons_succ, List.set_cons_zero]
            rw [hf]
            generalize f 37 = g37
            generalize f 38 = g38
            generalize f 39 = g39
            generalize f 40 = g40
            generalize f 41 = g41
            generalize f 42 = g42
            generalize f 43 = g43
            generalize f 44 = g44
            generalize f 45 = g45
            generalize f 46 = g46
            generalize f 47 = g47
            generalize f 48 = g48
            generalize f 49 = g49
            generalize f 50 = g50
            generalize f 51 = g51
            generalize f 52 = g52
            generalize f 53 = g53
            generalize f 54 = g54
            clear hf f
            have HB3 : Hid (Below W.heap.size W wc) := by rw [hwc]; exact below_drewN HB.out _
            clear hwc hcond hb HC HB
            obtain ⟨S, hSN⟩ : ∃ S : Nat, S = o.size - b := ⟨_, rfl⟩
            obtain ⟨U, hUN⟩ : ∃ U : Nat, U = t.size - b := ⟨_, rfl⟩
            have hS : (o.size : Int) - (b : Int) = (S : Int) := by omega
            have hU : (t.size : Int) - (b : Int) = (U : Int) := by omega
            go_wp2
            go_loopw [11] (fun i wr => ∃ k : Nat, k ≤ S ∧ i = .int .i64 k ∧ Hid (ceF o t b (S - k) k = ce o t b) ∧ Hid (Below W.heap.size W wr)) (fun i _ => S - (Go.RowKit.intOf i).toNat)
            case atStart => exact ⟨0, Nat.zero_le _, rfl, by rw [hSN]; rfl, HB3.out⟩
            case round =>
              obtain ⟨k, hk, rfl, HC, HB⟩ := hrel
              by_cases hcond : k < o.size - b ∧ k < t.size - b ∧ bt o (o.size - 1 - k) = bt t (t.size - 1 - k)
              · obtain ⟨h1, h2, h3⟩ := hcond
                have h1I : decide (k < S) = true := decide_eq_true (by omega)
                have h2I : decide (k < U) = true := decide_eq_true (by omega)
                obtain ⟨p, hp⟩ : ∃ p : Nat, p = o.size - 1 - k := ⟨_, rfl⟩
                obtain ⟨q, hq⟩ : ∃ q : Nat, q = t.size - 1 - k := ⟨_, rfl⟩
                have hps : p < o.size := by omega
                have hqt : q < t.size := by omega
                have w5 : (o.size : Int) - 1 - (k : Int) = (p : Int) := by omega
                have w6 : (t.size : Int) - 1 - (k : Int) = (q : Int) := by omega
                have h3I : ((o[p].toNat : Int) == (t[q].toNat : Int)) = true := by rw [bt_in hps, bt_in hqt, hp, hq, h3]; simp
                have HN : Hid (ceF o t b (S - (k + 1)) (k + 1) = ce o t b) := by rw [hSN]; rw [hSN] at HC; exact (ceF_yes ⟨h1, h2, h3⟩).symm.trans HC.out
                clear h3 hp hq
                go_wp2
                go_quiet (fail)
                go_wp2
                go_roundw
                case rel => exact ⟨k + 1, by omega, by go_num, HN, below_drewN HB.out _⟩
                case measure => simp [Go.RowKit.intOf]; omega
              · have hb : ce o t b = k := HC.out.symm.trans (ceF_no hcond)
                have HQQ : Hid (ce o t b = k) := hb
                have hqle : k ≤ o.size - b ∧ k ≤ t.size - b := by rw [← hb]; exact ce_le o t b
                go_wp2
                refine wp_cut_to (fun a0 t w' => ∃ f, t = canon a0 dsK2 f ∧ f 88 = .bool false ∧ ∃ n, w' = wr.drewN n) ?_ ?_
                rotate_left
                · intro J K' hJ hK
                  by_cases h1 : k < o.size - b
                  · have do1 : decide ((k : Int) < (o.size : Int) - (b : Int)) = true := decide_eq_true (by omega)
                    have do2 : decide (k < o.size - b) = true := decide_eq_true (by omega)
                    have do3 : decide ((k : Int) < (S : Int)) = true := decide_eq_true (by omega)
                    have do4 : decide (k < S) = true := decide_eq_true (by omega)
                    have do5 : decide (k + b < o.size) = true := decide_eq_true (by omega)
                    have do6 : decide (b + k < o.size) = true := decide_eq_true (by omega)
                    by_cases h2 : k < t.size - b
                    · have dt1 : decide ((k : Int) < (t.size : Int) - (b : Int)) = true := decide_eq_true (by omega)
                      have dt2 : decide (k < t.size - b) = true := decide_eq_true (by omega)
                      have dt3 : decide ((k : Int) < (U : Int)) = true := decide_eq_true (by omega)
                      have dt4 : decide (k < U) = true := decide_eq_true (by omega)
                      have dt5 : decide (k + b < t.size) = true := decide_eq_true (by omega)
                      have dt6 : decide (b + k < t.size) = true := decide_eq_true (by omega)
                      obtain ⟨p, hp⟩ : ∃ p : Nat, p = o.size - 1 - k := ⟨_, rfl⟩
                      obtain ⟨q, hq⟩ : ∃ q : Nat, q = t.size - 1 - k := ⟨_, rfl⟩
                      have hps : p < o.size := by omega
                      have hqt : q < t.size := by omega
                      have w5 : (o.size : Int) - 1 - (k : Int) = (p : Int) := by omega
                      have w6 : (t.size : Int) - 1 - (k : Int) = (q : Int) := by omega
                      have h3I : ((o[p].toNat : Int) == (t[q].toNat : Int)) = false := by rw [bt_in hps, bt_in hqt, hp, hq]; simpa using (fun h3 => hcond ⟨h1, h2, h3⟩)
                      clear hp hq
                      go_quiet (fail)
                      refine hK _ _ (Met.intro (hJ _ _ ?_))
                      refine cut_in (ds := dsK2) (c := 88) (Pw := fun w' => ∃ n, w' = wr.drewN n) ?_ rfl ⟨_, rfl⟩
                      simp only [canon, dsK2, List.foldl, Act.put, List.setIfInBounds_toArray, List.set_cons_succ, List.set_cons_zero]
                      rfl
                    · have dt1 : decide ((k : Int) < (t.size : Int) - (b : Int)) = false := decide_eq_false (by omega)
                      have dt2 : decide (k < t.size - b) = false := decide_eq_false (by omega)
                      have dt3 : decide ((k : Int) < (U : Int)) = false := decide_eq_false (by omega)
                      have dt4 : decide (k < U) = false := decide_eq_false (by omega)
                      have dt5 : decide (k + b < t.size) = false := decide_eq_false (by omega)
                      have dt6 : decide (b + k < t.size) = false := decide_eq_false (by omega)
                      go_quiet (fail)
                      refine hK _ _ (Met.intro (hJ _ _ ?_))
                      refine cut_in (ds := dsK2) (c := 88) (Pw := fun w' => ∃ n, w' = wr.drewN n) ?_ rfl ⟨_, rfl⟩
                      simp only [canon, dsK2, List.foldl, Act.put, List.setIfInBounds_toArray, List.set_cons_succ, List.set_cons_zero]
                      rfl
                  · have do1 : decide ((k : Int) < (o.size : Int) - (b : Int)) = false := decide_eq_false (by omega)
                    have do2 : decide (k < o.size - b) = false := decide_eq_false (by omega)
                    have do3 : decide ((k : Int) < (S : Int)) = false := decide_eq_false (by omega)
                    have do4 : decide (k < S) = false := decide_eq_false (by omega)
                    have do5 : decide (k + b < o.size) = false := decide_eq_false (by omega)
                    have do6 : decide (b + k < o.size) = false := decide_eq_false (by omega)
                    go_quiet (fail)
                    refine hK _ _ (Met.intro (hJ _ _ ?_))
                    refine cut_in (ds := dsK2) (c := 88) (Pw := fun w' => ∃ n, w' = wr.drewN n) ?_ rfl ⟨_, rfl⟩
                    simp only [canon, dsK2, List.foldl, Act.put, List.setIfInBounds_toArray, List.set_cons_succ, List.set_cons_zero]
                    rfl
                rintro _ wc ⟨f, rfl, hf, nn, hwc⟩
                simp only [canon, dsK2, List.foldl, Act.put, List.setIfInBounds_toArray, List.set_cons_succ, List.set_cons_zero]
                rw [hf]
                generalize f 58 = g58
                generalize f 59 = g59
                generalize f 60 = g60
                generalize f 61 = g61
                generalize f 62 = g62
                generalize f 63 = g63
                generalize f 64 = g64
                generalize f 65 = g65
                generalize f 66 = g66
                generalize f 67 = g67
                generalize f 68 = g68
                generalize f 69 = g69
                generalize f 70 = g70
                generalize f 71 = g71
                generalize f 72 = g72
                generalize f 73 = g73
                generalize f 74 = g74
                generalize f 75 = g75
                generalize f 76 = g76
                generalize f 77 = g77
                generalize f 78 = g78
                generalize f 79 = g79
                generalize f 80 = g80
                generalize f 81 = g81
                generalize f 82 = g82
                generalize f 83 = g83
                generalize f 84 = g84
                generalize f 85 = g85
                generalize f 86 = g86
                generalize f 87 = g87
                clear hf f
                have HB4 : Hid (Below W.heap.size W wc) := by rw [hwc]; exact below_drewN HB.out _
                obtain ⟨qq, hqk⟩ : ∃ qq, qq = k := ⟨_, rfl⟩
                subst hqk
                clear hwc hcond hb HC HB
                have HTT : Hid (b = cb (textR D len) t ∧ qq = ce (textR D len) t b) := ⟨by rw [← HO.out]; exact HBB.out.symm, by rw [← HO.out]; exact HQQ.out.symm⟩
                have hlen40 : len ≤ 40 := (seqB_parts HS.out).1
                have HAPP : Hid (W.heap.size ≤ wc.heap.size) := HB4.out.size
                have HNEWS : Hid (∀ j u, (cellsL (listD D len))[j]? = some u → (wc.alloc (.cells #[] 36)).cell? ((⟨ab, ao, none⟩ : Addr).add j) = some u) := evs_news ((HE.out.below HB4.out).below ((Below.refl _ _).alloc (Nat.le_refl _) _))
                have HC1 : Hid (0 + len ≤ maxLen ∧ (0 + len) * 40 ≤ 140737488355328 ∧ W.heap.size ≤ (wc.alloc (.cells #[] 36)).heap.size) := ⟨by unfold maxLen; omega, by omega, by have := HB4.out.size; simp; omega⟩
                have HFI : Hid (∀ v5 w5, w5.ownsRow W.heap.size 36 4 v5 (0 + len) ([] ++ cellsL (listD D len)) → (wc.alloc (.cells #[] 36)).grownBy w5 (some wc.heap.size) → OwnV w5 W.heap.size v5 (listD D len) ∧ Below W.heap.size W w5) := fun v5 w5 hown hgrow => by
                  have hb := HB4.out.alloc HB4.out.size (.cells #[] 36)
                  refine ⟨?_, hb.grown hgrow hb.size (fun x hx => by cases hx; exact HB4.out.size)⟩
                  show w5.ownsRow _ _ _ _ _ _
                  rw [listD_len]
                  rw [Nat.zero_add, List.nil_append] at hown
                  exact hown
                have HG5 : Hid (Good (listD D len)) := by
                  refine ⟨by rw [listD_len]; exact (seqB_parts HS.out).1, fun i hi => ?_⟩
                  rw [listD_len] at hi
                  unfold gD
                  rw [listD_at D len i hi]
                  exact HFF.out i hi
                obtain ⟨n, hn⟩ : ∃ n : Nat, n = o.size - qq := ⟨_, rfl⟩
                have hnI : (o.size : Int) - (qq : Int) = (n : Int) := by omega
                have hbn : b ≤ n := by omega
                obtain ⟨m, hm⟩ : ∃ m : Nat, m = t.size - qq := ⟨_, rfl⟩
                have hmI : (t.size : Int) - (qq : Int) = (m : Int) := by omega
                have hbm : b ≤ m := by omega
                have hmt : m ≤ t.size := by omega
                have hAf : Hid (tuR D len author t = itW author t (m - b) b (itD author (b : Int) (n - b) (listD D len))) := by
                  show _ = _
                  rw [tuR_yes HTG.out]
                  unfold tuM tuN
                  rw [← HTT.out.1, ← HTT.out.2, ← HO.out, hm, hn, show o.size - b - qq = o.size - qq - b by omega]
                clear hn hm HTT HQQ HBB hSN hUN hS hU
                go_wp2_with (
                  at_builtin
                  refine wpList_append_own _ rfl _ _ 24 rfl W.heap.size 36 i0 (.agg #[.int .i64 0, .int .i64 0, .int .i64 0, .string ⟨#[]⟩]) 4 40 Try.underlying24 hi hz0 hz1 hz2 rfl (by decide) _ 0 [] rfl (World.ownsRow_made wc #[] 0 HAPP.out (by decide) rfl) ⟨ab, ao, none⟩ len cap (cellsL (listD D len)) rfl (by rw [cellsL_len, listD_len]) HNEWS.out (oneL _) HC1.out.1 HC1.out.2.1 HC1.out.2.2 ?_
                  intro v5 w5 hown hgrow hnil
                  have HE5 := (show Hid _ from HFI.out v5 w5 hown hgrow)
                  clear hown hgrow hnil)
                go_loopw [12, 13, 14] (fun v u i wr => ∃ (k : Nat) (A O : List Ev) (v' u' : Value), b ≤ k ∧ k ≤ n ∧ i = .int .i64 k ∧ v' = v ∧ u' = u ∧ Hid (OwnV wr W.heap.size v' A ∧ OwnV wr W.heap.size u' O ∧ Good A ∧ itD author (b : Int) (n - k) A = itD author (b : Int) (n - b) (listD D len) ∧ A = listD D len ++ O ∧ Below W.heap.size W wr)) (fun _ _ i _ => n - (Go.RowKit.intOf i).toNat)
                case atStart => exact ⟨b, listD D len, [], _, _, Nat.le_refl _, hbn, rfl, rfl, rfl, HE5.out.1.below ((Below.refl _ _).alloc (Nat.le_refl _) _), ⟨rfl, .inr ⟨w5.heap.size, 0, #[], rfl, HE5.out.2.size, heap_alloc_new _ _, Nat.le_refl _, Nat.zero_le _, rfl, rfl⟩⟩, HG5.out, rfl, by simp, HE5.out.2.alloc HE5.out.2.size _⟩
                case round =>
                  obtain ⟨k, A, O, v, u, hbk, hk, rfl, rfl, rfl, HI⟩ := hrel
                  obtain ⟨va, vc, hv, hE⟩ := HI.out.1.evs
                  by_cases hlt : k < n
                  · have hltI : (k : Int) < (n : Int) := by omega
                    subst hv
                    have HD : Hid (IsEvs wr va A.length vc (gD A)) := hE
                    clear hE
                    go_wp2_with fail
                    refine (specDeleted_any va A.length vc (gD A) author (b : Int) wr HD.out HI.out.2.2.1.2).mono ?_
                    rintro e w6 ⟨v6, rfl, hO6, hB6⟩
                    obtain ⟨s, hs⟩ : ∃ s, s = okD (gD A) A.length author (b : Int) := ⟨_, rfl⟩
                    rw [← hs] at hO6 ⊢
                    have HB6 : Hid (Below W.heap.size W w6) := HI.out.2.2.2.2.2.trans (hB6.mono HI.out.2.2.2.2.2.size)
                    cases s with
                    | false =>
                      have HN : Hid (tuR D len author t = none) := by
                        show _ = _
                        rw [hAf.out, ← HI.out.2.2.2.1, show n - k = (n - k - 1) + 1 by omega, itD_no (stD_no hs.symm)]
                        rfl
                      clear hs hO6 HI HD
                      have HBX : Hid (Below W.heap.size W (w6.alloc (.cells #[.int .i64 0, .int .i64 0, .int .i64 0, .string ⟨#[]⟩] 36))) := HB6.out.alloc HB6.out.size _
                      clear hB6
                      rw [show (enc4 (if false = true then opD (gD A) A.length author (b : Int) else evZ)).toArray = #[.int .i64 0, .int .i64 0, .int .i64 0, .string ⟨#[]⟩] from rfl]
                      go_wp2
                      refine bodyPost_ret (results_ttt (u := 6) (v := 7) (x := 8) rfl _ _) rfl ?_
                      exact TS.no HN.out HBX.out
                    | true =>
                      obtain ⟨x, hx⟩ : ∃ x, x = opD (gD A) A.length author (b : Int) := ⟨_, rfl⟩
                      obtain ⟨B, hB⟩ : ∃ B, B = A ++ [x] := ⟨_, rfl⟩
                      have hst := stD_ok hs.symm
                      rw [← hx, ← hB] at hst
                      have hO40 : O.length ≤ 1000 := by
                        have h1 := HI.out.2.2.1.1
                        rw [HI.out.2.2.2.2.1, List.length_append] at h1
                        omega
                      have HK : Hid (OwnV w6 W.heap.size v6 B ∧ OwnV w6 W.heap.size u O ∧ (Good B ∧ itD author (b : Int) (n - (k + 1)) B = itD author (b : Int) (n - b) (listD D len) ∧ B = listD D len ++ (O ++ [x])) ∧ O.length ≤ 1000 ∧ Below W.heap.size W w6 ∧ (∀ k, v6.ownBlock = some k → u.ownBlock ≠ some k)) := by
                        refine ⟨?_, HI.out.2.1.below hB6, ⟨(stD_some HI.out.2.2.1 hst).1, ?_, by rw [hB, HI.out.2.2.2.2.1, List.append_assoc]⟩, hO40, HB6.out, fun k hk hk' => ?_⟩
                        · have := hO6.base HI.out.2.2.2.2.2.size
                          rw [if_pos rfl, listD_gD, ← hx, ← hB] at this
                          exact this
                        · rw [← HI.out.2.2.2.1, show n - k = (n - (k + 1)) + 1 by omega, itD_yes hst]
                        · have h1 := (World.ownsRow.lt hO6 k hk).1
                          have h2 := (World.ownsRow.lt HI.out.2.1 k hk').2
                          omega
                      rw [show (enc4 (if true = true then opD (gD A) A.length author (b : Int) else evZ)).toArray = #[.int .i64 (opD (gD A) A.length author (b : Int)).a, .int .i64 (opD (gD A) A.length author (b : Int)).b, .int .i64 (opD (gD A) A.length author (b : Int)).c, .string (opD (gD A) A.length author (b : Int)).d] from rfl, ← hx]
                      clear hs hO6 hB6 hst HI HD hB hx hO40
                      have hBa : Below w6.heap.size w6 ((w6.alloc (.cells #[.int .i64 x.a, .int .i64 x.b, .int .i64 x.c, .string x.d] 36)).alloc (.cells #[.int .i64 x.a, .int .i64 x.b, .int .i64 x.c, .string x.d] 36)) := ((Below.refl _ _).alloc (Nat.le_refl _) _).alloc (by simp) _
                      have HOW : Hid (((w6.alloc (.cells #[.int .i64 x.a, .int .i64 x.b, .int .i64 x.c, .string x.d] 36)).alloc (.cells #[.int .i64 x.a, .int .i64 x.b, .int .i64 x.c, .string x.d] 36)).ownsRow W.heap.size 36 4 u O.length (cellsL O)) := HK.out.2.1.below hBa
                      have HNW : Hid (∀ j v, (enc4 x)[j]? = some v → ((w6.alloc (.cells #[.int .i64 x.a, .int .i64 x.b, .int .i64 x.c, .string x.d] 36)).alloc (.cells #[.int .i64 x.a, .int .i64 x.b, .int .i64 x.c, .string x.d] 36)).cell? ((⟨w6.heap.size + 1, 0, none⟩ : Addr).add j) = some v) := by
                        show ∀ j v, _
                        have := World.news_of_block (heap_alloc_new (w6.alloc (.cells #[.int .i64 x.a, .int .i64 x.b, .int .i64 x.c, .string x.d] 36)) (.cells #[.int .i64 x.a, .int .i64 x.b, .int .i64 x.c, .string x.d] 36))
                        simpa [enc4] using this
                      have HMX : Hid (O.length + 1 ≤ maxLen ∧ (O.length + 1) * 40 ≤ 140737488355328 ∧ W.heap.size ≤ ((w6.alloc (.cells #[.int .i64 x.a, .int .i64 x.b, .int .i64 x.c, .string x.d] 36)).alloc (.cells #[.int .i64 x.a, .int .i64 x.b, .int .i64 x.c, .string x.d] 36)).heap.size) := by
                        have h1 := HK.out.2.2.2.1
                        have h2 := (HK.out.2.2.2.2.1.trans (hBa.mono HK.out.2.2.2.2.1.size)).size
                        exact ⟨by unfold maxLen; omega, by omega, h2⟩
                      have HFIN : Hid (∀ v8 w8, w8.ownsRow W.heap.size 36 4 v8 (O.length + 1) (cellsL O ++ enc4 x) → ((w6.alloc (.cells #[.int .i64 x.a, .int .i64 x.b, .int .i64 x.c, .string x.d] 36)).alloc (.cells #[.int .i64 x.a, .int .i64 x.b, .int .i64 x.c, .string x.d] 36)).grownBy w8 u.ownBlock → OwnV w8 W.heap.size v6 B ∧ OwnV w8 W.heap.size v8 (O ++ [x]) ∧ Below W.heap.size W w8) := fun v8 w8 hown hgrow => by
                        have hb := HK.out.2.2.2.2.1.trans (hBa.mono HK.out.2.2.2.2.1.size)
                        refine ⟨(HK.out.1.below hBa).kept hgrow (fun k hk e => HK.out.2.2.2.2.2 k hk e.symm), ?_, hb.grown hgrow hb.size (fun k hk => (World.ownsRow.lt HK.out.2.1 k hk).1)⟩
                        unfold OwnV
                        rw [cellsL_append, cellsL_one, List.length_append]
                        exact hown
                      clear hBa
                      go_wp2_with (
                        at_builtin
                        refine wpList_append_own _ rfl _ _ 24 rfl W.heap.size 36 i0 (.agg #[.int .i64 0, .int .i64 0, .int .i64 0, .string ⟨#[]⟩]) 4 40 Try.underlying24 hi hz0 hz1 hz2 rfl (by decide) u O.length (cellsL O) rfl HOW.out ⟨w6.heap.size + 1, 0, none⟩ 1 1 (enc4 x) rfl rfl HNW.out (by simp [enc4, Value.oneCell']) HMX.out.1 HMX.out.2.1 HMX.out.2.2 ?_
                        intro v8 w8 hown8 hgrow8 hnil8
                        have HE8 := (show Hid _ from HFIN.out v8 w8 hown8 hgrow8)
                        clear hown8 hgrow8 hnil8)
                      go_roundw
                      case rel => exact ⟨k + 1, B, O ++ [x], _, _, by omega, by omega, by go_num, rfl, rfl, HE8.out.1, HE8.out.2.1, HK.out.2.2.1.1, HK.out.2.2.1.2.1, HK.out.2.2.1.2.2, HE8.out.2.2⟩
                      case measure => simp [Go.RowKit.intOf]; omega
                  · have hltI : ¬ (k : Int) < (n : Int) := by omega
                    have hkn : k = n := by omega
                    subst hkn
                    obtain ⟨A0, hA0⟩ : ∃ A0, A0 = A := ⟨_, rfl⟩
                    have HAf2 : Hid (tuR D len author t = itI author t (m - b) b A0) := by
                      have e0 : itD author (b : Int) (k - k) A = some A := by rw [Nat.sub_self]; rfl
                      show _ = _
                      rw [hAf.out, ← HI.out.2.2.2.1, e0, hA0]
                      rfl
                    have HI2 : Hid (OwnV wr W.heap.size v A0 ∧ OwnV wr W.heap.size u O ∧ Good A0 ∧ A0 = listD D len ++ O ∧ Below W.heap.size W wr) := by rw [hA0]; exact ⟨HI.out.1, HI.out.2.1, HI.out.2.2.1, HI.out.2.2.2.2.1, HI.out.2.2.2.2.2⟩
                    clear hE HI hAf hv hA0 HE5
                    go_wp2
                    go_loopw [12, 13, 18] (fun v u i wr => ∃ (k : Nat) (A O : List Ev) (v' u' : Value), b ≤ k ∧ k ≤ m ∧ i = .int .i64 k ∧ v' = v ∧ u' = u ∧ Hid (OwnV wr W.heap.size v' A ∧ OwnV wr W.heap.size u' O ∧ Good A ∧ itI author t (m - k) k A = itI author t (m - b) b A0 ∧ A = listD D len ++ O ∧ Below W.heap.size W wr)) (fun _ _ i _ => m - (Go.RowKit.intOf i).toNat)
                    case atStart => exact ⟨b, A0, O, _, _, Nat.le_refl _, hbm, rfl, rfl, rfl, HI2.out.1, HI2.out.2.1, HI2.out.2.2.1, rfl, HI2.out.2.2.2.1, HI2.out.2.2.2.2⟩
                    case round =>
                      clear HI2
                      obtain ⟨k, A, O, v, u, hbk, hk, rfl, rfl, rfl, HI⟩ := hrel
                      obtain ⟨va, vc, hv, hE⟩ := HI.out.1.evs
                      by_cases hlt : k < m
                      · have hltI : (k : Int) < (m : Int) := by omega
                        subst hv
                        have HD : Hid (IsEvs wr va A.length vc (gD A)) := hE
                        clear hE
                        obtain ⟨sg, hsg⟩ : ∃ sg, sg = t.extract k (k + 1) := ⟨_, rfl⟩
                        have hsz : sg.size ≤ 9223372036854775807 := by rw [hsg, ByteArray.size_extract]; omega
                        have HSG : Hid (sg = t.extract k (k + 1)) := hsg
                        have hkt : k + 1 ≤ t.size := by omega
                        clear hsg
                        go_wp2_with fail
                        rw [← HSG.out]
                        refine (specInserted_any va A.length vc (gD A) author (k : Int) sg hsz wr HD.out HI.out.2.2.1.2).mono ?_
                        rintro e w6 ⟨v6, rfl, hO6, hB6⟩
                        obtain ⟨s, hs⟩ : ∃ s, s = okI (gD A) A.length author (k : Int) sg := ⟨_, rfl⟩
                        rw [← hs] at hO6 ⊢
                        have HB6 : Hid (Below W.heap.size W w6) := HI.out.2.2.2.2.2.trans (hB6.mono HI.out.2.2.2.2.2.size)
                        cases s with
                        | false =>
                          have HN : Hid (tuR D len author t = none) := by
                            show _ = _
                            rw [HAf2.out, ← HI.out.2.2.2.1, show m - k = (m - k - 1) + 1 by omega, itI_no (by rw [← HSG.out]; exact stI_no hs.symm)]
                          clear hs hO6 HI HD
                          have HBX : Hid (Below W.heap.size W (w6.alloc (.cells #[.int .i64 0, .int .i64 0, .int .i64 0, .string ⟨#[]⟩] 36))) := HB6.out.alloc HB6.out.size _
                          clear hB6
                          rw [show (enc4 (if false = true then opI (gD A) A.length author (k : Int) sg else evZ)).toArray = #[.int .i64 0, .int .i64 0, .int .i64 0, .string ⟨#[]⟩] from rfl]
                          go_wp2
                          refine bodyPost_ret (results_ttt (u := 6) (v := 7) (x := 8) rfl _ _) rfl ?_
                          exact TS.no HN.out HBX.out
                        | true =>
                          obtain ⟨x, hx⟩ : ∃ x, x = opI (gD A) A.length author (k : Int) sg := ⟨_, rfl⟩
                          obtain ⟨B, hB⟩ : ∃ B, B = A ++ [x] := ⟨_, rfl⟩
                          have hst := stI_ok hs.symm
                          rw [← hx, ← hB] at hst
                          have hO40 : O.length ≤ 1000 := by
                            have h1 := HI.out.2.2.1.1
                            rw [HI.out.2.2.2.2.1, List.length_append] at h1
                            omega
                          have HK : Hid (OwnV w6 W.heap.size v6 B ∧ OwnV w6 W.heap.size u O ∧ (Good B ∧ itI author t (m - (k + 1)) (k + 1) B = itI author t (m - b) b A0 ∧ B = listD D len ++ (O ++ [x])) ∧ O.length ≤ 1000 ∧ Below W.heap.size W w6 ∧ (∀ k, v6.ownBlock = some k → u.ownBlock ≠ some k)) := by
                            refine ⟨?_, HI.out.2.1.below hB6, ⟨(stI_some hsz HI.out.2.2.1 hst).1, ?_, by rw [hB, HI.out.2.2.2.2.1, List.append_assoc]⟩, hO40, HB6.out, fun k hk hk' => ?_⟩
                            · have := hO6.base HI.out.2.2.2.2.2.size
                              rw [if_pos rfl, listD_gD, ← hx, ← hB] at this
                              exact this
                            · rw [← HI.out.2.2.2.1, show m - k = (m - (k + 1)) + 1 by omega, itI_yes (by rw [← HSG.out]; exact hst)]
                            · have h1 := (World.ownsRow.lt hO6 k hk).1
                              have h2 := (World.ownsRow.lt HI.out.2.1 k hk').2
                              omega
                          rw [show (enc4 (if true = true then opI (gD A) A.length author (k : Int) sg else evZ)).toArray = #[.int .i64 (opI (gD A) A.length author (k : Int) sg).a, .int .i64 (opI (gD A) A.length author (k : Int) sg).b, .int .i64 (opI (gD A) A.length author (k : Int) sg).c, .string (opI (gD A) A.length author (k : Int) sg).d] from rfl, ← hx]
                          clear hs hO6 hB6 hst HI HD hB hx hO40
                          have hBa : Below w6.heap.size w6 ((w6.alloc (.cells #[.int .i64 x.a, .int .i64 x.b, .int .i64 x.c, .string x.d] 36)).alloc (.cells #[.int .i64 x.a, .int .i64 x.b, .int .i64 x.c, .string x.d] 36)) := ((Below.refl _ _).alloc (Nat.le_refl _) _).alloc (by simp) _
                          have HOW : Hid (((w6.alloc (.cells #[.int .i64 x.a, .int .i64 x.b, .int .i64 x.c, .string x.d] 36)).alloc (.cells #[.int .i64 x.a, .int .i64 x.b, .int .i64 x.c, .string x.d] 36)).ownsRow W.heap.size 36 4 u O.length (cellsL O)) := HK.out.2.1.below hBa
                          have HNW : Hid (∀ j v, (enc4 x)[j]? = some v → ((w6.alloc (.cells #[.int .i64 x.a, .int .i64 x.b, .int .i64 x.c, .string x.d] 36)).alloc (.cells #[.int .i64 x.a, .int .i64 x.b, .int .i64 x.c, .string x.d] 36)).cell? ((⟨w6.heap.size + 1, 0, none⟩ : Addr).add j) = some v) := by
                            show ∀ j v, _
                            have := World.news_of_block (heap_alloc_new (w6.alloc (.cells #[.int .i64 x.a, .int .i64 x.b, .int .i64 x.c, .string x.d] 36)) (.cells #[.int .i64 x.a, .int .i64 x.b, .int .i64 x.c, .string x.d] 36))
                            simpa [enc4] using this
                          have HMX : Hid (O.length + 1 ≤ maxLen ∧ (O.length + 1) * 40 ≤ 140737488355328 ∧ W.heap.size ≤ ((w6.alloc (.cells #[.int .i64 x.a, .int .i64 x.b, .int .i64 x.c, .string x.d] 36)).alloc (.cells #[.int .i64 x.a, .int .i64 x.b, .int .i64 x.c, .string x.d] 36)).heap.size) := by
                            have h1 := HK.out.2.2.2.1
                            have h2 := (HK.out.2.2.2.2.1.trans (hBa.mono HK.out.2.2.2.2.1.size)).size
                            exact ⟨by unfold maxLen; omega, by omega, h2⟩
                          have HFIN : Hid (∀ v8 w8, w8.ownsRow W.heap.size 36 4 v8 (O.length + 1) (cellsL O ++ enc4 x) → ((w6.alloc (.cells #[.int .i64 x.a, .int .i64 x.b, .int .i64 x.c, .string x.d] 36)).alloc (.cells #[.int .i64 x.a, .int .i64 x.b, .int .i64 x.c, .string x.d] 36)).grownBy w8 u.ownBlock → OwnV w8 W.heap.size v6 B ∧ OwnV w8 W.heap.size v8 (O ++ [x]) ∧ Below W.heap.size W w8) := fun v8 w8 hown hgrow => by
                            have hb := HK.out.2.2.2.2.1.trans (hBa.mono HK.out.2.2.2.2.1.size)
                            refine ⟨(HK.out.1.below hBa).kept hgrow (fun k hk e => HK.out.2.2.2.2.2 k hk e.symm), ?_, hb.grown hgrow hb.size (fun k hk => (World.ownsRow.lt HK.out.2.1 k hk).1)⟩
                            unfold OwnV
                            rw [cellsL_append, cellsL_one, List.length_append]
                            exact hown
                          clear hBa
                          go_wp2_with (
                            at_builtin
                            refine wpList_append_own _ rfl _ _ 24 rfl W.heap.size 36 i0 (.agg #[.int .i64 0, .int .i64 0, .int .i64 0, .string ⟨#[]⟩]) 4 40 Try.underlying24 hi hz0 hz1 hz2 rfl (by decide) u O.length (cellsL O) rfl HOW.out ⟨w6.heap.size + 1, 0, none⟩ 1 1 (enc4 x) rfl rfl HNW.out (by simp [enc4, Value.oneCell']) HMX.out.1 HMX.out.2.1 HMX.out.2.2 ?_
                            intro v8 w8 hown8 hgrow8 hnil8
                            have HE8 := (show Hid _ from HFIN.out v8 w8 hown8 hgrow8)
                            clear hown8 hgrow8 hnil8)
                          go_roundw
                          case rel => exact ⟨k + 1, B, O ++ [x], _, _, by omega, by omega, by go_num, rfl, rfl, HE8.out.1, HE8.out.2.1, HK.out.2.2.1.1, HK.out.2.2.1.2.1, HK.out.2.2.1.2.2, HE8.out.2.2⟩
                          case measure => simp [Go.RowKit.intOf]; omega
                      · have hltI : ¬ (k : Int) < (m : Int) := by omega
                        have hkn : k = m := by omega
                        have HN : Hid (tuR D len author t = some A) := by
                          show _ = _
                          rw [HAf2.out, ← HI.out.2.2.2.1, hkn, Nat.sub_self]
                          rfl
                        have HF : Hid (OwnV wr W.heap.size v A ∧ OwnV wr W.heap.size u (A.drop len) ∧ Below W.heap.size W wr) := by
                          refine ⟨HI.out.1, ?_, HI.out.2.2.2.2.2⟩
                          have e1 : A.drop len = O := by
                            have hl : len = (listD D len).length := (listD_len D len).symm
                            rw [HI.out.2.2.2.2.1]
                            conv => lhs; arg 1; rw [hl]
                            exact List.drop_left
                          rw [e1]
                          exact HI.out.2.1
                        clear hE HI hkn
                        clear hv
                        go_wp2
                        refine bodyPost_ret (results_ttt (u := 6) (v := 7) (x := 8) rfl _ _) rfl ?_
                        exact TS.yes HN.out HF.out.1 HF.out.2.1 HF.out.2.2
end Go.Proofs.Ytjfciokpnhnhbaa
