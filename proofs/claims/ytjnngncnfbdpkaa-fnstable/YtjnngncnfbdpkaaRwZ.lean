/-
  The program's RowsMerged. No condition but that the slices read.
-/
import Derived.Test.YtjnngncnfbdpkaaRwR
namespace Go.Proofs.Ytjnngncnfbdpkaa
open Go.RowKit Go.Maps
set_option linter.unusedVariables false

theorem mgIs_in {A B : List Rw} (hA : rowsB A = true) (hB : rowsB B = true) {z : Int} (h : mgIs A B z = true) : 1 ≤ z ∧ z ≤ ((9 : Nat) : Int) := by
  unfold mgIs at h
  rw [Bool.or_eq_true] at h
  rcases h with h | h
  · exact isR_in hA h
  · exact isR_in hB h
theorem OwnR.base {w : World} {lo lo' hi : Nat} {v : Value} {L : List Rw} (h : OwnR w lo hi v L) (hl : lo' ≤ lo) : OwnR w lo' hi v L := by
  obtain ⟨xs, u, h1, h2, h3, h4⟩ := h
  exact ⟨xs, u, World.ownsRow.mono h1 hl, h2, fun i hi => ⟨(h3 i hi).1, (h3 i hi).2.1, (h3 i hi).2.2.1.base hl, (h3 i hi).2.2.2⟩, h4⟩

set_option maxRecDepth 10000 in
set_option maxHeartbeats 4000000 in
theorem implMerged_any (v v' : Value) (A B : List Rw) (w : World) (h : RdR w v A) (h' : RdR w v' B) (hA : A.length ≤ 1048576) (hB : B.length ≤ 1048576) :
    Calls Try.prog 9 #[v, v'] w fun e w' => ∃ r, e = .returned (.tuple #[r, .bool (rowsB A && rowsB B)]) ∧ OwnR w' w.heap.size w'.heap.size r (mgR A B) ∧ Below w.heap.size w w' := by
  have TA : Hid (Calls Try.prog 26 #[v] w fun e w' => ((rowsB A = false ∧ e = .returned (.tuple #[.map none, .bool false])) ∨ (rowsB A = true ∧ ∃ E, e = .returned (.tuple #[.map (some w.heap.size), .bool true]) ∧ Tb w' w.heap.size A.length E (lookR A))) ∧ Below w.heap.size w w') := tallies_any v A w h hA
  have TB : Hid (∀ w1, Below w.heap.size w w1 → Calls Try.prog 26 #[v'] w1 fun e w' => ((rowsB B = false ∧ e = .returned (.tuple #[.map none, .bool false])) ∨ (rowsB B = true ∧ ∃ E, e = .returned (.tuple #[.map (some w1.heap.size), .bool true]) ∧ Tb w' w1.heap.size B.length E (lookR B))) ∧ Below w1.heap.size w1 w') := fun w1 hb => tallies_any v' B w1 (h'.below hb) hB
  obtain ⟨i1, hi1, hy0, hy1, hy2⟩ := info_parts infoR
  obtain ⟨a0, c0, hv, _⟩ : ∃ a0 c0, v = .slice a0 A.length c0 ∧ True := by obtain ⟨a, c, e, _⟩ := h; exact ⟨a, c, e, trivial⟩
  obtain ⟨a0', c0', hv', _⟩ : ∃ a0 c0, v' = .slice a0 B.length c0 ∧ True := by obtain ⟨a, c, e, _⟩ := h'; exact ⟨a, c, e, trivial⟩
  subst hv
  subst hv'
  clear h h' hA hB
  go_enter Try.func9, Try.ntmps9
  go_wp2_with fail
  refine TA.out.mono ?_
  rintro e w1 ⟨hrA, hB1⟩
  have HB1 : Hid (Below w.heap.size w w1) := hB1
  clear hB1
  rcases hrA with ⟨hrA, rfl⟩ | ⟨hrA, EA, rfl, hTA⟩
  · have HR : Hid (mgR A B = [] ∧ false = (rowsB A && rowsB B)) := ⟨by unfold mgR; rw [hrA]; rfl, by rw [hrA]; rfl⟩
    clear hrA
    go_wp2_with fail
    refine (TB.out w1 HB1.out).mono ?_
    rintro e w2 ⟨hrB, hB2⟩
    have HB2 : Hid (Below w.heap.size w w2) := HB1.out.trans (hB2.mono HB1.out.size)
    clear hB2
    rcases hrB with ⟨hrB, rfl⟩ | ⟨hrB, EB, rfl, hTB⟩
    · clear hrB
      go_wp2
      go_ret2
      exact ⟨_, ret_tup HR.out.2, by rw [HR.out.1]; exact OwnR.nil _ _ _, HB2.out⟩
    · clear hrB hTB
      go_wp2
      go_ret2
      exact ⟨_, ret_tup HR.out.2, by rw [HR.out.1]; exact OwnR.nil _ _ _, HB2.out⟩
  · have HRA : Hid (rowsB A = true) := hrA
    have HTA : Hid (Tb w1 w.heap.size A.length EA (lookR A)) := hTA
    clear hrA hTA
    go_wp2_with fail
    refine (TB.out w1 HB1.out).mono ?_
    rintro e w2 ⟨hrB, hB2⟩
    have HB12 : Hid (Below w1.heap.size w1 w2) := hB2
    have HB2 : Hid (Below w.heap.size w w2) := HB1.out.trans (hB2.mono HB1.out.size)
    clear hB2
    rcases hrB with ⟨hrB, rfl⟩ | ⟨hrB, EB, rfl, hTB⟩
    · have HR : Hid (mgR A B = [] ∧ false = (rowsB A && rowsB B)) := ⟨by unfold mgR; rw [hrB, Bool.and_false]; rfl, by rw [hrB, Bool.and_false]⟩
      clear hrB
      go_wp2
      go_ret2
      exact ⟨_, ret_tup HR.out.2, by rw [HR.out.1]; exact OwnR.nil _ _ _, HB2.out⟩
    · have HRB : Hid (rowsB B = true) := hrB
      have HR : Hid (mgR A B = mgK A B 9 ∧ true = (rowsB A && rowsB B)) := ⟨by unfold mgR; rw [hrB, HRA.out]; rfl, by rw [hrB, HRA.out]; rfl⟩
      have HTB : Hid (Tb w2 w1.heap.size B.length EB (lookR B)) := hTB
      have HTA2 : Hid (Tb w2 w.heap.size A.length EA (lookR A)) := HTA.out.below HB12.out
      have HLT : Hid (w.heap.size < w1.heap.size ∧ w1.heap.size < w2.heap.size ∧ A.length ≤ 9 ∧ B.length ≤ 9) := ⟨HTA.out.own.lt, hTB.own.lt, rowsB_len HRA.out, rowsB_len hrB⟩
      clear hrB hTB
      go_wp2_with (at_range; refine wpList_range_own _ rfl _ 48 rfl 2 52 lawI Try.underlying48 VR w1.heap.size B.length EB rfl HTB.out.own ?_; intro w0 hrg0 hg0 hs0)
      go_frame
      have HR0 : Hid (w0.ranges Try.prog 2 VR w1.heap.size w2.heap.size B.length EB (has EB) (Maps.size EB)) := hrg0
      have HZ0 : Hid (Maps.size EB ≤ B.length) := HTB.out.own.size_le
      have HB0 : Hid (Below w2.heap.size w2 w0) := (Below.refl _ _).grown hg0 (Nat.le_refl _) (fun j hj => by cases hj)
      have HT0 : Hid (Tb w0 w.heap.size A.length EA (mgf A B (has EB))) := (HTA2.out.below HB0.out).of fun z => (mgf_all (fun z => HTB.out.hask z) z).symm
      have HW0 : Hid (Below w.heap.size w w0) := HB2.out.trans (HB0.out.mono HB2.out.size)
      clear hrg0 hg0 hs0
      go_loopw [] (fun wr => ∃ (left : Lit → Bool) (cnt q : Nat) (E : DataW Value), wr.ranges Try.prog 2 VR w1.heap.size w2.heap.size B.length EB left cnt ∧ q + cnt ≤ A.length + B.length ∧ Hid (Tb wr w.heap.size q E (mgf A B left) ∧ Below w.heap.size w wr))
        (fun wr => wr.rangeLeft w1.heap.size w2.heap.size)
      case atStart => exact ⟨_, _, A.length, EA, HR0.out, by have := HZ0.out; omega, HT0.out, HW0.out⟩
      case round =>
        obtain ⟨left, cnt, q, E, hrg, hqc, HI⟩ := hrel
        have HG : Hid (wr.ranges Try.prog 2 VR w1.heap.size w2.heap.size B.length EB left cnt) := hrg
        go_wp2_with (first
          | (at_next; refine wpList_next_ranges _ rfl _ rfl 2 lawI VR (Value.int .i64) (fun c => c) keyI_inv VR_inv w1.heap.size w2.heap.size B.length _ _ _ rfl hrg ?_ ?_))
        · intro _ hl0
          clear hrg
          have HF0 : Hid (Tb wr w.heap.size q E (mgf A B left) ∧ q ≤ 18 ∧ ∀ l, left l = false) := ⟨HI.out.1, by have := HLT.out; omega, hl0⟩
          have HW : Hid (Below w.heap.size w wr) := HI.out.2
          clear hl0 hqc HI HG
          have HM : Hid (wr.ownsMap Try.prog 2 VR w.heap.size q E) := HF0.out.1.own
          have hq18 : q ≤ 1000000 := by have := HF0.out.2.1; omega
          clear TA TB HTA HTA2 HTB HR0 HZ0 HB0 HT0 HW0
          go_wp2_with (first
            | (go_at_call 29; refine (Try.maps_Keys_I _ _).mono ?_; rintro e w' ⟨rfl, hw'⟩; rw [hw']; clear hw' w')
            | (go_at_call 28; refine (sortedI w.heap.size q E VR _ HM.out hq18).mono ?_; rintro e w4 ⟨v, ss, rfl, hU, hM, hO4, hB4⟩; obtain ⟨a4, cap4, rfl⟩ := hO4.slice))
          have hss : ss = whoK A B 9 := upI_unique hU (whoK_up A B 9) (fun z => by
            rw [hM, HF0.out.1.hask, mgf_end HF0.out.2.2, whoK_mem]
            exact ⟨fun h => ⟨mgIs_in HRA.out HRB.out h, h⟩, fun h => h.2⟩)
          have HSS : Hid (ss.map (mgRow A B) = mgK A B 9) := by rw [hss]; exact (rfl : mgK A B 9 = mgK A B 9)
          have HZ : Hid (∀ i, i < ss.length → (Lit.int .i64 (ss.getD i 0)).wf = true ∧ mgIs A B (ss.getD i 0) = true) := fun i hi => by
            have h1 : ss.getD i 0 ∈ ss := by simp [hi]
            rw [hss] at h1 ⊢
            have h2 := (whoK_mem A B _ 9).1 h1
            exact ⟨wf_of (by omega) (by omega), h2.2⟩
          have hsl : ss.length ≤ 9 := by rw [hss]; exact whoK_len A B 9
          obtain ⟨a', cap', e', hlc, hcm, hcell⟩ := hO4.rd
          simp at e'
          obtain ⟨rfl, rfl⟩ := e'
          obtain ⟨n, hn⟩ : ∃ n, n = ss.length := ⟨_, rfl⟩
          have HN : Hid (n = ss.length) := hn
          have HB4 : Hid (Below wr.heap.size wr w4) := hB4
          have HBW : Hid (Below w.heap.size w w4) := HW.out.trans (hB4.mono HW.out.size)
          have HT4 : Hid (Tb w4 w.heap.size q E (mgf A B left)) := HF0.out.1.below hB4
          rw [← hn] at hlc hcell hsl HZ ⊢
          clear hss hU hM hO4 hn hB4 HM hq18
          go_loopw [12, 49] (fun v i wq => ∃ (k : Nat), k ≤ n ∧ i = .int .i64 k ∧ Hid (OwnR wq w4.heap.size wq.heap.size v ((ss.take k).map (mgRow A B))) ∧ Hid (Below w4.heap.size w4 wq)) (fun _ i _ => n - (intOf i).toNat)
          case atStart => exact ⟨0, Nat.zero_le _, rfl, OwnR.nil _ _ _, Below.refl _ _⟩
          case round =>
            obtain ⟨k, hk, rfl, HO, HB⟩ := hrel
            by_cases hlt : k < n
            · have hltI : (k : Int) < (n : Int) := by omega
              obtain ⟨b, off, rfl, hbs, hce⟩ := hcell (by omega)
              have ck := (HB.out.cell (p := ⟨b, off + k, none⟩) hbs).trans (hce k hlt)
              obtain ⟨hzw, hzm⟩ := HZ.out k hlt
              have hst : (ss.take (k + 1)).map (mgRow A B) = (ss.take k).map (mgRow A B) ++ [mgRow A B (ss.getD k 0)] := by
                rw [List.take_add_one, List.map_append]
                have : ss[k]?.toList = [ss.getD k 0] := by simp [show k < ss.length by rw [← HN.out]; exact hlt]
                rw [this]
                rfl
              obtain ⟨z, hz⟩ : ∃ z, z = ss.getD k 0 := ⟨_, rfl⟩
              rw [← hz] at ck hzw hzm hst
              have HST : Hid _ := hst
              obtain ⟨X, hX⟩ : ∃ X, X = maxZ (fZ A z) (fZ B z) := ⟨_, rfl⟩
              have HX : Hid (X = maxZ (fZ A z) (fZ B z)) := hX
              obtain ⟨o, ho⟩ : ∃ o, o = arr9 X := ⟨_, rfl⟩
              have HOO : Hid (o = arr9 X) := ho
              have hlk := (HT4.out.below HB.out).look hzw
              rw [mgf_val HRA.out HRB.out HF0.out.2.2 hzm, ← hX, ← ho] at hlk
              obtain ⟨M, hM⟩ : ∃ M, M = (ss.take k).map (mgRow A B) := ⟨_, rfl⟩
              have hMl : M.length ≤ 9 := by rw [hM, List.length_map, List.length_take]; omega
              rw [← hM] at HO HST
              obtain ⟨xs, uu, h1, h2, h3, h4⟩ := HO.out
              obtain ⟨m, hm⟩ : ∃ m, m = M.length := ⟨_, rfl⟩
              have HMX : Hid (m + 1 ≤ maxLen ∧ (m + 1) * 32 ≤ 140737488355328 ∧ w4.heap.size ≤ wr.heap.size) := ⟨by unfold maxLen; omega, by omega, HB.out.size⟩
              have HOx : Hid (∀ wv, Below wr.heap.size wr wv → wv.ownsRow w4.heap.size 46 2 u12 m xs) := fun wv hb => by rw [hm]; exact ownsRow_below h1 hb
              have HF : Hid (∀ wv v7 w7 u7, Below wr.heap.size wr wv → OwnI wv wr.heap.size u7 (lst9 X) → w7.ownsRow w4.heap.size 46 2 v7 (m + 1) (xs ++ [.int .i64 z, u7]) → wv.grownBy w7 u12.ownBlock → OwnR w7 w4.heap.size w7.heap.size v7 ((ss.take (k + 1)).map (mgRow A B)) ∧ Below w4.heap.size w4 w7) := fun wv v7 w7 u7 hb hI hown hgrow => by
                rw [hm] at hown
                have := ownR_snoc h1 h3 h4 HB.out.size hb hI hown hgrow
                refine ⟨?_, ?_⟩
                · rw [HST.out]
                  unfold mgRow
                  rw [← HX.out]
                  exact this
                · have hb2 : Below w4.heap.size w4 wv := HB.out.trans (hb.mono HB.out.size)
                  exact hb2.grown hgrow hb2.size (fun x hx => (World.ownsRow.lt h1 x hx).1)
              clear hce hcell hst hz hX ho hM hMl h1 h2 h3 h4 hm hzm hzw
              go_wp2_with (first
                | (go_at_call 30
                   rw [HOO.out]
                   refine (list_any X _).mono ?_
                   rintro e w5 ⟨u5, rfl, hO5, hB5⟩
                   obtain ⟨a5, c5, hu5⟩ := hO5.slice
                   rw [lst9_len] at hu5
                   subst hu5
                   have HB5 : Hid (∀ o, Below wr.heap.size wr (w5.alloc o)) := fun o => hB5.alloc hB5.size _
                   have HO5 : Hid (∀ o, OwnI (w5.alloc o) wr.heap.size (.slice a5 9 c5) (lst9 X)) := fun o => hO5.below ((Below.refl _ _).alloc (Nat.le_refl _) _)
                   have HS5 : Hid (w4.heap.size ≤ w5.heap.size + 1) := by show _ ≤ _; have := HMX.out.2.2; have := hB5.size; omega
                   clear hO5 hB5)
                | (at_builtin; refine wpList_append_own _ rfl _ _ 24 rfl w4.heap.size 46 i1 (.agg #[.int .i64 0, .slice none 0 0]) 2 32 Try.underlying24 hi1 hy0 hy1 hy2 rfl (by decide) _ m _ rfl (HOx.out _ (HB5.out _)) ⟨w5.heap.size, 0, none⟩ 1 1 [.int .i64 z, .slice a5 9 c5] rfl rfl (World.news_of_block (heap_alloc_new _ _)) (by simp [Value.oneCell']) HMX.out.1 HMX.out.2.1 (by simpa using HS5.out) ?_; intro v7 w7 hown7 hgrow7 hnil7))
              have HE : Hid _ := HF.out _ v7 w7 _ (HB5.out _) (HO5.out _) hown7 hgrow7
              clear hown7 hgrow7 hnil7
              go_wp2
              go_roundw
              case rel => exact ⟨k + 1, by omega, by go_num, HE.out.1, HE.out.2⟩
              case measure => simp [intOf]; omega
            · have hke : k = n := by omega
              subst hke
              have hkd : decide ((k : Int) < (k : Int)) = false := by simp
              have HF : Hid (OwnR wr w.heap.size wr.heap.size u12 (mgR A B) ∧ Below w.heap.size w wr) := by
                refine ⟨?_, HBW.out.trans (HB.out.mono HBW.out.size)⟩
                have := HO.out
                rw [HN.out, List.take_length, HSS.out] at this
                rw [HR.out.1]
                exact this.base HBW.out.size
              clear hcell
              go_wp2
              go_ret2
              exact ⟨_, ret_tup HR.out.2, HF.out.1, HF.out.2⟩
        · intro x c kl y ps w3 cnt3 hkx hlk hRv hat hrg3 hlt3 hg3 hs3 hen
          obtain ⟨rfl, hwx⟩ := keyI_lit hkx
          have hisB : isR B x = true := (HTB.out.hask x).symm.trans (has_true_of_atKey hat)
          have hce : c = .agg (arr9 (fZ B x)) := by
            unfold VR at hRv
            simp only [Option.some.injEq, Prod.mk.injEq] at hRv
            have h1 := hat (.held c)
            rw [HTB.out.atk] at h1
            unfold isR at hisB
            obtain ⟨cs, hcs⟩ := Option.isSome_iff_exists.1 hisB
            rw [hcs] at h1
            dsimp only at h1
            have h2 := hRv.1.trans h1.symm
            simp only [DataW.held.injEq] at h2
            rw [h2]
            have h3 : ofR B x = cs := by unfold ofR; rw [hcs]; rfl
            show Value.agg (tlC cs) = .agg (arr9 fun k => (ofR B x).getD k 0)
            rw [h3, tl_arr (by rw [← h3]; exact csB_len (ofR_ok HRB.out x))]
          subst hce
          obtain ⟨p, hp⟩ : ∃ p, p = arr9 (fZ B x) := ⟨_, rfl⟩
          have HP : Hid (p = arr9 (fZ B x)) := hp
          have hps : p.size = 9 := by rw [hp, arr9_size]
          have hpi : (Try.prog.info? 52).map (·.size) = some p.size := by rw [hps]; exact infoT
          have hpo : (#[.int .i64 0, .int .i64 0, .int .i64 0, .int .i64 0, .int .i64 0, .int .i64 0, .int .i64 0, .int .i64 0, .int .i64 0] : Array Value).size = p.size := by rw [hps]; rfl
          have hp1 : p.all (·.oneCell') = true := by rw [hp]; exact arr9_one _
          rw [← hp] at hen hRv ⊢
          have HT3 : Hid (Tb w3 w.heap.size q E (mgf A B left)) := HI.out.1.kept (hg3.block _ HI.out.1.own.lt (by have := HLT.out; intro e; have e := Option.some.inj e; omega))
          have HG3 : Hid (w3.ranges Try.prog 2 VR w1.heap.size w2.heap.size B.length EB (fun z => left z && !z.sameKey (.int .i64 x)) cnt3) := hrg3
          have HB3 : Hid (Below w.heap.size w w3) := HI.out.2.grown hg3 HI.out.2.size (fun k hk => by have hk := Option.some.inj hk; have := HLT.out; omega)
          have HC : Hid (q + 1 + cnt3 ≤ A.length + B.length ∧ q < maxLen ∧ cnt3 < cnt) := ⟨by omega, by have := HLT.out; unfold maxLen; omega, hlt3⟩
          have HIS : Hid (isR B x = true) := hisB
          have HLK : Hid (left (.int .i64 x) = true) := hlk
          have hkey := keyI hwx
          clear hrg hrg3 hRv hat hlk hg3 hs3 hlt3 hp hqc hkx hisB
          go_wp2_with (first
            | (refine wpList_store_row rfl 52 _ _ rfl w3.heap.size p rfl rfl 52 _ (heap_alloc_new _ _) hpi hpo hp1 ?_
               obtain ⟨W4, hW4⟩ : ∃ W4, W4 = (w3.alloc (.cells #[.int .i64 0, .int .i64 0, .int .i64 0, .int .i64 0, .int .i64 0, .int .i64 0, .int .i64 0, .int .i64 0, .int .i64 0] 52)).setRow w3.heap.size p := ⟨_, rfl⟩
               rw [← hW4]
               have hb4 : Below w3.heap.size w3 W4 := by rw [hW4]; exact below_setRow ((Below.refl _ _).alloc (Nat.le_refl _) _) (Nat.le_refl _) _
               have HQ4 : Hid (W4.heap[w3.heap.size]? = some (.cells p 52)) := by rw [hW4]; exact setRow_heap _ _ _ _ _ _ (heap_alloc_new _ _)
               have HB4 : Hid (Below w3.heap.size w3 W4) := hb4
               have HT4 : Hid (Tb W4 w.heap.size q E (mgf A B left)) := HT3.out.below hb4
               obtain ⟨o, ho⟩ : ∃ o, o = arr9 (fZ A x) := ⟨_, rfl⟩
               have HO : Hid (o = arr9 (fZ A x)) := ho
               have hlk4 := HT4.out.look hwx
               rw [mgf_at HLK.out, show (lookR A x).getD z9 = ofR A x from rfl, tl_arr (csB_len (ofR_ok HRA.out x)), show (arr9 fun i => (ofR A x).getD i 0) = o from ho.symm] at hlk4
               clear hW4 hb4 ho)
            | (refine wpList_load_row rfl 52 _ rfl w3.heap.size rfl 52 p _ _ HQ4.out Try.underlying52 rfl hpi ?_)
            | (go_at_call 27
               rw [HO.out, HP.out]
               refine (raised_any (fZ A x) (fZ B x) _).mono ?_
               rintro e w5 ⟨rfl, hB5⟩
               have HB5 : Hid (Below w3.heap.size w3 w5) := HB4.out.trans (hB5.mono HB4.out.size)
               have HT5 : Hid (Tb w5 w.heap.size q E (mgf A B left)) := HT4.out.below hB5
               obtain ⟨r, hr⟩ : ∃ r, r = arr9 (maxZ (fZ A x) (fZ B x)) := ⟨_, rfl⟩
               rw [← hr]
               have HRR : Hid (r = tlC (lst9 (maxZ (fZ A x) (fZ B x)))) := by show _ = _; rw [hr, tl_lst]
               clear hB5 hr)
            | (at_mapUpdate
               refine wpList_mapUpdate_own _ rfl _ _ _ 48 rfl 2 52 lawI Try.underlying48 VR w.heap.size q E rfl HT5.out.own HC.out.2.1 _ _ _ rfl rfl hkey (.held (.agg r)) [] rfl ?_
               intro w6 hown6 hgrow6
               have HT6 : Hid (Tb w6 w.heap.size (q + 1) (E.put (.int .i64 x) (.held (.agg r))) (mgf A B (fun z => left z && !z.sameKey (.int .i64 x)))) := by
                 show Tb _ _ _ _ _
                 rw [HRR.out] at hown6 ⊢
                 exact (HT5.out.put hown6).of fun z => mgf_step HIS.out z
               have HG6 : Hid (w6.ranges Try.prog 2 VR w1.heap.size w2.heap.size B.length EB (fun z => left z && !z.sameKey (.int .i64 x)) cnt3) :=
                 (HG3.out.kept (row := none) ⟨HB5.out.os, HB5.out.tape, HB5.out.output, HB5.out.size, fun k hk _ => HB5.out.block k hk⟩ (by simp) (by simp)).kept hgrow6 (by have := HLT.out; intro e; have e := Option.some.inj e; omega) (by have := HLT.out; intro e; have e := Option.some.inj e; omega)
               have HB6 : Hid (Below w.heap.size w w6) := (HB3.out.trans (HB5.out.mono HB3.out.size)).grown hgrow6 (HB3.out.trans (HB5.out.mono HB3.out.size)).size (fun k hk => by have hk := Option.some.inj hk; omega)
               clear hown6 hgrow6))
          go_roundw
          case rel => exact ⟨_, _, _, _, _, _, _, _, _, _, _, _, _, _, ⟨_, cnt3, q + 1, _, HG6.out, HC.out.1, HT6.out, HB6.out⟩, rfl⟩
          case measure => rw [HG6.out.left_eq, HG.out.left_eq]; exact HC.out.2.2
end Go.Proofs.Ytjnngncnfbdpkaa
