/-
  The program's StableOf. No condition but that the slices read.
-/
import Derived.Test.YtjnngncnfbdpkaaRwV
import Derived.Handy
namespace Go.Proofs.Ytjnngncnfbdpkaa
open Go.RowKit Go.Maps
set_option linter.unusedVariables false

theorem stT_one {L : List Rw} (hr : rowsB L = true) {who : List Int} (h : 0 < who.length) : arr9 (stT L who 1) = arr9 (fZ L (who.getD 0 0)) :=
  arr9_ext fun k hk => by
    have := stT_succ L who h k
    have h2 := fZ_le hr (who.getD 0 0) hk
    rw [this]
    show min 1000000 _ = _
    omega

set_option maxRecDepth 10000 in
set_option maxHeartbeats 4000000 in
theorem implStable_any (v u : Value) (L : List Rw) (who : List Int) (w : World) (h : RdR w v L) (hL : L.length ≤ 1048576) (hu : RdI w u who) (hwf : ∀ z ∈ who, (Lit.int .i64 z).wf = true) :
    Calls Try.prog 19 #[v, u] w fun e w' => ∃ r, e = .returned r ∧ OwnI w' w.heap.size r (stR L who) ∧ Below w.heap.size w w' := by
  have TA : Hid (Calls Try.prog 26 #[v] w fun e w' => ((rowsB L = false ∧ e = .returned (.tuple #[.map none, .bool false])) ∨ (rowsB L = true ∧ ∃ E, e = .returned (.tuple #[.map (some w.heap.size), .bool true]) ∧ Tb w' w.heap.size L.length E (lookR L))) ∧ Below w.heap.size w w') := tallies_any v L w h hL
  obtain ⟨a, cap, rfl, hlc, hcm, hc⟩ := hu
  obtain ⟨m, hm⟩ : ∃ m, m = who.length := ⟨_, rfl⟩
  have HM : Hid (m = who.length) := hm
  have HWF : Hid (∀ j, j < m → (Lit.int .i64 (who.getD j 0)).wf = true) := fun j hj => hwf _ (by simp [show j < who.length by omega])
  rw [← hm] at hlc hc ⊢
  clear h hm hwf
  go_enter Try.func19, Try.ntmps19
  go_wp2_with fail
  refine TA.out.mono ?_
  rintro e w1 ⟨hr, hB1⟩
  have HB1 : Hid (Below w.heap.size w w1) := hB1
  clear hB1
  rcases hr with ⟨hr, rfl⟩ | ⟨hr, E, rfl, hT⟩
  · have HR : Hid (stR L who = []) := by show _ = _; unfold stR stB; rw [hr]; rfl
    clear hr
    go_wp2
    go_ret
    exact ⟨_, rfl, by rw [HR.out]; exact OwnI.nil _ _, HB1.out⟩
  · by_cases h1 : m < 1
    · have h1d : decide ((m : Int) < 1) = true := decide_eq_true (by omega)
      have HR : Hid (stR L who = []) := by show _ = _; unfold stR stB; rw [← HM.out, decide_eq_false (show ¬ 1 ≤ m by omega)]; simp
      clear hr
      go_wp2
      go_ret
      exact ⟨_, rfl, by rw [HR.out]; exact OwnI.nil _ _, HB1.out⟩
    · have h1d : decide ((m : Int) < 1) = false := decide_eq_false (by omega)
      by_cases h9 : 9 < m
      · have h9d : decide ((9 : Int) < (m : Int)) = true := decide_eq_true (by omega)
        have HR : Hid (stR L who = []) := by show _ = _; unfold stR stB; rw [← HM.out, decide_eq_false (show ¬ m ≤ 9 by omega)]; simp
        clear hr
        go_wp2
        go_ret
        exact ⟨_, rfl, by rw [HR.out]; exact OwnI.nil _ _, HB1.out⟩
      · have h9d : decide ((9 : Int) < (m : Int)) = false := decide_eq_false (by omega)
        have HR : Hid (stR L who = lst9 (stT L who m)) := by show _ = _; unfold stR stB; rw [hr, ← HM.out, decide_eq_true (show 1 ≤ m by omega), decide_eq_true (show m ≤ 9 by omega)]; rfl
        have HRB : Hid (rowsB L = true) := hr
        have HT : Hid (Tb w1 w.heap.size L.length E (lookR L)) := hT
        obtain ⟨b, off, rfl, hbs, hcell⟩ := hc (by omega)
        have HC : Hid (∀ w' j, Below w.heap.size w w' → j < m → w'.cell? ⟨b, off + j, none⟩ = some (.int .i64 (who.getD j 0))) := fun w' j hB hj => (hB.cell (p := ⟨b, off + j, none⟩) hbs).trans (hcell j hj)
        have hm1 : 1 ≤ m := by omega
        have hm9 : m ≤ 9 := by omega
        have k0 := HC.out w1 0 HB1.out (by omega)
        rw [Nat.add_zero] at k0
        obtain ⟨z0, hz0⟩ : ∃ z0, z0 = who.getD 0 0 := ⟨_, rfl⟩
        have hwz := HWF.out 0 (by omega)
        rw [← hz0] at k0 hwz
        obtain ⟨p, hp⟩ : ∃ p, p = arr9 (fZ L z0) := ⟨_, rfl⟩
        have hlk := hT.look9 hr hwz
        rw [← hp] at hlk
        have HP : Hid (p = arr9 (stT L who 1)) := by show _ = _; rw [hp, stT_one hr (by rw [← HM.out]; omega), ← hz0]
        have hps : p.size = 9 := by rw [hp, arr9_size]
        have hpi : (Try.prog.info? 52).map (·.size) = some p.size := by rw [hps]; exact infoT
        have hpo : (#[.int .i64 0, .int .i64 0, .int .i64 0, .int .i64 0, .int .i64 0, .int .i64 0, .int .i64 0, .int .i64 0, .int .i64 0] : Array Value).size = p.size := by rw [hps]; rfl
        have hp1 : p.all (·.oneCell') = true := by rw [hp]; exact arr9_one _
        clear hc hcell hr hT hp h1 h9 hz0
        by_cases hcap : cap = 1
        · subst hcap
          obtain rfl : m = 1 := by omega
          go_wp2_with (first
            | (refine wpList_store_row rfl 52 _ _ rfl w1.heap.size p rfl rfl 52 _ (heap_alloc_new _ _) hpi hpo hp1 ?_
               obtain ⟨W4, hW4⟩ : ∃ W4, W4 = (w1.alloc (.cells #[.int .i64 0, .int .i64 0, .int .i64 0, .int .i64 0, .int .i64 0, .int .i64 0, .int .i64 0, .int .i64 0, .int .i64 0] 52)).setRow w1.heap.size p := ⟨_, rfl⟩
               rw [← hW4]
               have hb4 : Below w1.heap.size w1 W4 := by rw [hW4]; exact below_setRow ((Below.refl _ _).alloc (Nat.le_refl _) _) (Nat.le_refl _) _
               have HQ4 : Hid (W4.heap[w1.heap.size]? = some (.cells p 52)) := by rw [hW4]; exact setRow_heap _ _ _ _ _ _ (heap_alloc_new _ _)
               have HB4 : Hid (Below w1.heap.size w1 W4) := hb4
               clear hW4 hb4))
          refine wp_loop_rounds 1 ?_
          rw [rounds_succ]
          obtain ⟨P, hP⟩ : ∃ P, P = p := ⟨_, rfl⟩
          have hPs : P.size = 9 := by rw [hP]; exact hps
          have HPP : Hid (P = arr9 (stT L who 1)) := by rw [hP]; exact HP
          have HQ : Hid (W4.heap[w1.heap.size]? = some (.cells P 52)) := by rw [hP]; exact HQ4
          have HBX : Hid (Below w.heap.size w W4) := HB1.out.trans (HB4.out.mono HB1.out.size)
          clear hP
          have hPi : (Try.prog.info? 52).map (·.size) = some P.size := by rw [hPs]; exact infoT
          go_wp2_with (first
            | (refine wpList_load_row rfl 52 _ rfl w1.heap.size rfl 52 P _ _ HQ.out Try.underlying52 rfl hPi ?_)
            | (go_at_call 30
               rw [HPP.out]
               refine (list_any (stT L who 1) _).mono ?_
               rintro e w6 ⟨r, rfl, hO6, hB6⟩
               have HF : Hid (OwnI w6 w.heap.size r (stR L who) ∧ Below w.heap.size w w6) := by
                 rw [HR.out]
                 exact ⟨hO6.base HBX.out.size, HBX.out.trans (hB6.mono HBX.out.size)⟩
               clear hO6 hB6))
          go_ret
          exact ⟨_, rfl, HF.out.1, HF.out.2⟩
        · have hcap1 : 1 < cap := by omega
          clear hcap
          go_wp2_with (first
            | (refine wpList_store_row rfl 52 _ _ rfl w1.heap.size p rfl rfl 52 _ (heap_alloc_new _ _) hpi hpo hp1 ?_
               obtain ⟨W4, hW4⟩ : ∃ W4, W4 = (w1.alloc (.cells #[.int .i64 0, .int .i64 0, .int .i64 0, .int .i64 0, .int .i64 0, .int .i64 0, .int .i64 0, .int .i64 0, .int .i64 0] 52)).setRow w1.heap.size p := ⟨_, rfl⟩
               rw [← hW4]
               have hb4 : Below w1.heap.size w1 W4 := by rw [hW4]; exact below_setRow ((Below.refl _ _).alloc (Nat.le_refl _) _) (Nat.le_refl _) _
               have HQ4 : Hid (W4.heap[w1.heap.size]? = some (.cells p 52)) := by rw [hW4]; exact setRow_heap _ _ _ _ _ _ (heap_alloc_new _ _)
               have HB4 : Hid (Below w1.heap.size w1 W4) := hb4
               clear hW4 hb4))
          go_loopw [35] (fun i wr => ∃ (j : Nat) (P : Array Value), j + 1 ≤ m ∧ i = .int .i64 j ∧ Hid (P = arr9 (stT L who (j + 1))) ∧ Hid (wr.heap[w1.heap.size]? = some (.cells P 52)) ∧ Hid (Below w1.heap.size w1 wr)) (fun i _ => m - (intOf i).toNat)
          case atStart => exact ⟨0, p, by omega, rfl, HP, HQ4, HB4⟩
          case round =>
            obtain ⟨j, P, hj, rfl, HPP, HQ, HB⟩ := hrel
            have hPs : P.size = 9 := by rw [HPP.out, arr9_size]
            have HBX : Hid (Below w.heap.size w wr) := HB1.out.trans (HB.out.mono HB1.out.size)
            by_cases hlt : j + 1 < m
            · have hltI : (j : Int) < ((m - 1 : Nat) : Int) := by omega
              have hltN : j < m - 1 := by omega
              have ck := HC.out wr (j + 1) HBX.out (by omega)
              have hadr : off + 1 + j = off + (j + 1) := by omega
              rw [← hadr] at ck
              obtain ⟨z, hz⟩ : ∃ z, z = who.getD (j + 1) 0 := ⟨_, rfl⟩
              have hwz2 := HWF.out (j + 1) (by omega)
              rw [← hz] at ck hwz2
              obtain ⟨q, hq⟩ : ∃ q, q = arr9 (fZ L z) := ⟨_, rfl⟩
              have HQZ : Hid (q = arr9 (fZ L z)) := hq
              have hlk2 := (HT.out.below HB.out).look9 HRB.out hwz2
              rw [← hq] at hlk2
              have HN : Hid (arr9 (minZ (stT L who (j + 1)) (fZ L z)) = arr9 (stT L who (j + 1 + 1))) := by
                show _ = _
                refine arr9_ext fun k hk => ?_
                rw [stT_succ L who (by rw [← HM.out]; exact hlt), ← hz]
                rfl
              have hPi : (Try.prog.info? 52).map (·.size) = some P.size := by rw [hPs]; exact infoT
              clear hz hq hadr hlk
              go_wp2_with (first
                | (refine wpList_load_row rfl 52 _ rfl w1.heap.size rfl 52 P _ _ HQ.out Try.underlying52 rfl hPi ?_)
                | (go_at_call 39
                   rw [HPP.out, HQZ.out]
                   refine (lowered_any (stT L who (j + 1)) (fZ L z) _).mono ?_
                   rintro e w5 ⟨rfl, hB5⟩
                   rw [HN.out]
                   obtain ⟨R, hR⟩ : ∃ R, R = arr9 (stT L who (j + 1 + 1)) := ⟨_, rfl⟩
                   rw [← hR]
                   have hRs : R.size = 9 := by rw [hR, arr9_size]
                   have hRi : (Try.prog.info? 52).map (·.size) = some R.size := by rw [hRs]; exact infoT
                   have hRo : P.size = R.size := by rw [hRs, hPs]
                   have hR1 : R.all (·.oneCell') = true := by rw [hR]; exact arr9_one _
                   have HRR : Hid (R = arr9 (stT L who (j + 1 + 1))) := hR
                   have HQ5 : Hid (w5.heap[w1.heap.size]? = some (.cells P 52)) := (hB5.block _ (lt_of_block HQ.out)).trans HQ.out
                   have HB5 : Hid (Below w1.heap.size w1 w5) := HB.out.trans (hB5.mono HB.out.size)
                   clear hB5 hR)
                | (refine wpList_store_row rfl 52 _ _ rfl w1.heap.size R rfl rfl 52 _ HQ5.out hRi hRo hR1 ?_))
              go_roundw
              case rel => exact ⟨j + 1, R, by omega, by go_num, HRR, setRow_heap _ _ _ _ _ _ HQ5.out, below_setRow HB5.out (Nat.le_refl _) _⟩
              case measure => simp [intOf]; omega
            · have hje : j + 1 = m := by omega
              have hjd : decide ((j : Int) < ((m - 1 : Nat) : Int)) = false := decide_eq_false (by omega)
              have hjn : ¬ (j < m - 1) := by omega
              rw [hje] at HPP
              clear hje hlt
              have hPi : (Try.prog.info? 52).map (·.size) = some P.size := by rw [hPs]; exact infoT
              go_wp2_with (first
                | (refine wpList_load_row rfl 52 _ rfl w1.heap.size rfl 52 P _ _ HQ.out Try.underlying52 rfl hPi ?_)
                | (go_at_call 30
                   rw [HPP.out]
                   refine (list_any (stT L who m) _).mono ?_
                   rintro e w6 ⟨r, rfl, hO6, hB6⟩
                   have HF : Hid (OwnI w6 w.heap.size r (stR L who) ∧ Below w.heap.size w w6) := by
                     rw [HR.out]
                     exact ⟨hO6.base HBX.out.size, HBX.out.trans (hB6.mono HBX.out.size)⟩
                   clear hO6 hB6))
              go_ret
              exact ⟨_, rfl, HF.out.1, HF.out.2⟩
end Go.Proofs.Ytjnngncnfbdpkaa
