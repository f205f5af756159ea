/-
  The statement FnBeatenSaid: at every code the law returns true, and the code reads afterwards as it read before. No condition.
-/
import Derived.Test.YtnjlegphohmajaaBdMg
import Derived.Handy
namespace Go.Proofs.Ytnjlegphohmajaa
open Go.ChangeShapes Go.WideShapes Go.ChangeAt Go.RowKit Go.Deep
set_option linter.unusedVariables false

theorem results_tmp4 {fn : Func} {t u v x : Tmp} (h : fn.results = #[.tmp t, .tmp u, .tmp v, .tmp x]) (tmps : Array Value) (P : Program) (w : World) :
    (results fn tmps).run P w = .ok (.tuple #[tmps.getD t undef, tmps.getD u undef, tmps.getD v undef, tmps.getD x undef]) w := by
  simp [results, h, go_sem]

theorem anyS_succ (M : List Ev) (x : Ev) (k : Nat) (h : k < M.length) : (M.take (k + 1)).any (fun y => Ev.same y x) = ((M.take k).any (fun y => Ev.same y x) || Ev.same (M.getD k evZ) x) := by
  rw [take_succ h, List.any_append]
  simp
theorem anyS_mem {M : List Ev} {x : Ev} (h : x ∈ M) : M.any (fun y => Ev.same y x) = true := by
  rw [List.any_eq_true]
  exact ⟨x, h, Ev.same_refl x⟩
/-- all others stay -/
theorem others_stay {A : List Ev} (hA : UpB A) {x s : Ev} (hx : x ∈ A) (hne : x.a ≠ s.a) : x ∈ putB A s := by
  have h := lookB_put s x.a A hA
  rw [if_neg hne] at h
  have h2 : lookB A x.a = some x := by
    cases hq : lookB A x.a with
    | none =>
      have : (lookB A x.a).isSome = true := lookB_some.2 (List.mem_map.2 ⟨x, hx, rfl⟩)
      rw [hq] at this; cases this
    | some y => rw [upB_inj hA (lookB_mem hq).1 hx (lookB_mem hq).2]
  rw [h2] at h
  exact (lookB_mem h).1

section
variable {W : World} {a : Option Addr} {len cap : Nat} {Z : Nat → Int}
set_option maxHeartbeats 2000000 in
theorem drawBeaten_any (hU : IsU8 W a len cap Z) :
    Calls Try.prog 9 #[.slice a len cap] W fun e w' => ∃ g c A who at' t, e = .returned (.tuple #[.slice (some ⟨g, 0, none⟩) A.length c, .int .i64 who, .int .i64 at', .string t]) ∧ Drawn A ∧ (-9223372036854775808 ≤ who ∧ who ≤ 9223372036854775807) ∧ t.size ≤ 3 ∧ OwnE w' W.heap.size g c A ∧ Below W.heap.size W w' := by
  go_enter Try.func9, Try.ntmps9
  go_wp2_with fail
  refine (open_any _ _ _ _).mono ?_
  rintro e w1 ⟨rfl, hD1⟩
  go_wp2_with fail
  refine (beats_any 8 (by omega) (by omega) hU w1 hD1).mono ?_
  rintro e w2 ⟨g1, c1, A, rfl, hA, hO1, hD2, hM2⟩
  have hg1 : g1 ≠ W.heap.size := by have := hO1.lies.2.2; have := hD1.lt; omega
  have hs1 := hD1.bel.size
  go_wp2_with fail
  refine (once_any hU 8 (by omega) (by omega) w2 hD2).mono ?_
  rintro e w3 ⟨x, rfl, hD3, hM3⟩
  have HO3 : Hid (OwnE w3 W.heap.size g1 c1 A) := (hO1.base hs1).mut hM3 hg1
  clear hO1 hM3 hD2 hM2 hD1
  cases x with
  | true =>
    go_wp2_with fail
    refine (off16_any hU w3 hD3).mono ?_
    rintro e w4 ⟨z, hz0, hz1, rfl, hD4, hM4⟩
    go_wp2_with fail
    refine (off0m_any hU w4 hD4).mono ?_
    rintro e w5 ⟨y, hy0, hy1, rfl, hD5, hM5⟩
    go_wp2_with fail
    refine (text_any hU w5 hD5).mono ?_
    rintro e w6 ⟨t, ht, rfl, hD6, hM6⟩
    have HF : Hid (OwnE w6 W.heap.size g1 c1 A ∧ Below W.heap.size W w6) := ⟨((HO3.out.mut hM4 hg1).mut hM5 hg1).mut hM6 hg1, hD6.bel⟩
    clear hM4 hD4 hD3 hM5 hD5 hM6 hD6
    go_wp2
    (try simp only [Exit.inBlock, Exit.then]); refine bodyPost_ret (results_tmp4 rfl _ _ _) rfl ?_
    exact ⟨g1, c1, A, z, y, t, rfl, hA, ⟨hz0, hz1⟩, ht, HF.out.1, HF.out.2⟩
  | false =>
    go_wp2_with fail
    refine (below_any hU 6 (by omega) (by omega) w3 hD3).mono ?_
    rintro e w4 ⟨z, hz0, hz1, rfl, hD4, hM4⟩
    go_wp2_with fail
    refine (below_any hU 100 (by omega) (by omega) w4 hD4).mono ?_
    rintro e w5 ⟨y, hy0, hy1, rfl, hD5, hM5⟩
    go_wp2_with fail
    refine (text_any hU w5 hD5).mono ?_
    rintro e w6 ⟨t, ht, rfl, hD6, hM6⟩
    have HF : Hid (OwnE w6 W.heap.size g1 c1 A ∧ Below W.heap.size W w6) := ⟨((HO3.out.mut hM4 hg1).mut hM5 hg1).mut hM6 hg1, hD6.bel⟩
    clear hM4 hD4 hD3 hM5 hD5 hM6 hD6
    go_wp2
    (try simp only [Exit.inBlock, Exit.then]); refine bodyPost_ret (results_tmp4 rfl _ _ _) rfl ?_
    exact ⟨g1, c1, A, 1 + z, y, t, rfl, hA, ⟨by omega, by omega⟩, ht, HF.out.1, HF.out.2⟩
end

set_option maxRecDepth 10000 in
set_option maxHeartbeats 8000000 in
theorem beaten_walk {a : Option Addr} {len cap : Nat} {Z : Nat → Int} (W : World) (hU : IsU8 W a len cap Z) :
    Calls Try.prog 3 #[.slice a len cap] W fun e w' => e = .returned (.bool true) ∧ Below W.heap.size W w' := by
  go_enter Try.func3, Try.ntmps3
  go_wp2_with fail
  refine (big_any _ _ _ _).mono ?_
  rintro e w0 ⟨rfl, rfl⟩
  by_cases hbg : (1048576 : Int) < (len : Int)
  · go_wp2
    go_ret
    exact ⟨rfl, Below.refl _ _⟩
  have hbd : decide ((1048576 : Int) < (len : Int)) = false := by simpa using hbg
  clear hbg
  go_wp2_with fail
  refine (drawBeaten_any hU).mono ?_
  rintro e w1 ⟨g, c, A, who, at', t, rfl, hA, hw, ht, hO, hB⟩
  have IA : Hid (∀ i, i < A.length → (A.getD i evZ).in) := in_of fun x hx => (hA.2 x hx).2.2
  have HT : Hid (t.size ≤ 9223372036854775807) := by show _ ≤ _; omega
  have HA : Hid (Drawn A) := hA
  go_wp2_with fail
  refine (implBeaten_any _ c A who at' t w1 hO.evs IA.out HT.out (wf_of hw.1 hw.2)).mono ?_
  rintro e w2 ⟨vm, rfl, hM, hB2⟩
  have o2 := hO.below hB2
  go_wp2_with fail
  refine (specBeaten_any g 0 c A who at' t w2 o2.lies.1 o2.lies.2.1 o2.caps.1 o2.caps.2 IA.out HT.out).mono ?_
  rintro e X ⟨vs, rfl, hS, hB3⟩
  have o3 := o2.below hB3
  have m3 := hM.below hB3
  have HB3 : Hid (Below w0.heap.size w0 X) := (hB.trans (hB2.mono hB.size)).trans (hB3.mono (hB.trans (hB2.mono hB.size)).size)
  have RL : Hid (∀ w', Below X.heap.size X w' → OwnE w' w0.heap.size g c A) := fun w' h => o3.below h
  have HMV : Hid (∀ w', Below X.heap.size X w' → OwnV w' w1.heap.size vm (bnR A who at' t)) := fun w' h => m3.below h
  have HSV : Hid (∀ w', Below X.heap.size X w' → OwnV w' w2.heap.size vs (bnR A who at' t)) := fun w' h => hS.below h
  have HOK : Hid (bnB A who at' t = true → bnR A who at' t = putB A (nextE A who at' t)) := fun h => by unfold bnR; rw [h]; rfl
  have HOB : Hid (bnB A who at' t = true → beatsL A = true ∧ beatsL (putB A (nextE A who at' t)) = true) := fun h => by
    unfold bnB at h
    simp only [Bool.and_eq_true] at h
    exact h
  have SB : Hid (∀ w', Below X.heap.size X w' → Calls Try.prog 14 #[.slice (some ⟨g, 0, none⟩) A.length c] w' fun e w'' => e = .returned (.bool (beatsL A)) ∧ Below w'.heap.size w' w'') := fun w' h => specBeats_any _ _ _ _ w' (o3.below h).evs IA.out
  have IB : Hid (∀ w', Below X.heap.size X w' → Calls Try.prog 13 #[.slice (some ⟨g, 0, none⟩) A.length c] w' fun e w'' => e = .returned (.bool (beatsL A)) ∧ Below w'.heap.size w' w'') := fun w' h => implBeats_any _ _ _ _ w' (o3.below h).evs IA.out
  obtain ⟨n, hn⟩ : ∃ n, n = A.length := ⟨_, rfl⟩
  have HN : Hid (n = A.length) := hn
  have hcap : n ≤ c ∧ c ≤ 9223372036854775807 := by rw [hn]; exact hO.caps
  obtain ⟨hc1, hc2⟩ := hcap
  rw [← hn] at SB IB ⊢
  clear hA hw hO hB hM hB2 o2 hS hB3 o3 m3 hn
  obtain ⟨ok, hok⟩ : ∃ ok, ok = bnB A who at' t := ⟨_, rfl⟩
  rw [← hok] at HOK HOB ⊢
  have hokn : (ok != ok) = false := by simp
  have hoke : (ok == ok) = true := by simp
  clear hok
  go_wp2_with fail
  refine (same_any _ _ _ _ (HMV.out _ (Below.refl _ _)).rd (HSV.out _ (Below.refl _ _)).rd).mono ?_
  rintro e x1 ⟨rfl, q1⟩
  have HX1 : Hid (Below X.heap.size X x1) := q1
  clear q1
  obtain ⟨bl, hbl⟩ : ∃ bl, bl = beatsL A := ⟨_, rfl⟩
  rw [← hbl] at SB IB
  have hbln : (bl != bl) = false := by simp
  clear hbl
  go_wp2_with fail
  refine (IB.out _ HX1.out).mono ?_
  rintro e x2 ⟨rfl, q2⟩
  have HX2 : Hid (Below X.heap.size X x2) := HX1.out.trans (q2.mono HX1.out.size)
  go_wp2_with fail
  refine (SB.out _ HX2.out).mono ?_
  rintro e x3 ⟨rfl, q3⟩
  have HX3 : Hid (Below X.heap.size X x3) := HX2.out.trans (q3.mono HX2.out.size)
  clear q2 q3
  cases ok with
  | false =>
    go_wp2_with fail
    refine (same_any _ _ _ _ (HMV.out _ HX3.out).rd (HSV.out _ HX3.out).rd).mono ?_
    rintro e x4 ⟨rfl, q4⟩
    have HX4 : Hid (Below X.heap.size X x4) := HX3.out.trans (q4.mono HX3.out.size)
    clear q4
    go_wp2
    go_ret
    exact ⟨rfl, HB3.out.trans (HX4.out.mono HB3.out.size)⟩
  | true =>
    have hR := HOK.out rfl
    obtain ⟨hbA, hbM⟩ := HOB.out rfl
    have HU : Hid (UpB A) := beatsL_up hbA
    have HBA : Hid (beatsL A = true) := hbA
    have HXM : Hid (nextE A who at' t ∈ putB A (nextE A who at' t)) := nextE_mem HU.out who at' t
    have HXB : Hid (clkTo A who n = (nextE A who at' t).b ∧ (nextE A who at' t).a = who ∧ (nextE A who at' t).c = at' ∧ (nextE A who at' t).d = t) := ⟨by rw [HN.out, clkTo_end HU.out]; rfl, rfl, rfl, rfl⟩
    have HST : Hid (∀ y ∈ A, y.a ≠ who → y ∈ putB A (nextE A who at' t)) := fun y hy hne => others_stay HU.out hy hne
    have HCK : Hid (∀ k, k ≤ n → 1 ≤ clkTo A who k ∧ clkTo A who k ≤ 1000001) := fun k hk => clkTo_small hbA who k (by rw [← HN.out]; exact hk)
    rw [hR] at HMV
    have hmne := putB_ne A (nextE A who at' t)
    generalize nextE A who at' t = x at HMV HXM HXB HST hbM hmne
    have IM : Hid (∀ z ∈ putB A x, z.in) := fun z hz => by
      rcases putB_mem _ _ _ hz with rfl | hz
      · show z.d.size ≤ _; rw [HXB.out.2.2.2]; exact HT.out
      · exact (HA.out.2 z hz).2.2
    generalize putB A x = M at HMV HXM HST hbM hmne IM
    obtain ⟨gm, cm, rfl, hom⟩ : ∃ gm cm, vm = .slice (some ⟨gm, 0, none⟩) M.length cm ∧ OwnE X w1.heap.size gm cm M := by
      rcases (HMV.out X (Below.refl _ _)).cases with ⟨_, h0⟩ | h
      · exact absurd h0 hmne
      · exact h
    have RM : Hid (∀ w', Below X.heap.size X w' → OwnE w' w1.heap.size gm cm M) := fun w' h => hom.below h
    have IBM : Hid (∀ w', Below X.heap.size X w' → Calls Try.prog 13 #[.slice (some ⟨gm, 0, none⟩) M.length cm] w' fun e w'' => e = .returned (.bool true) ∧ Below w'.heap.size w' w'') := fun w' h => by rw [← hbM]; exact implBeats_any _ _ _ _ w' (hom.below h).evs (in_of IM.out)
    obtain ⟨m, hm⟩ : ∃ m, m = M.length := ⟨_, rfl⟩
    have HMN : Hid (m = M.length) := hm
    have hcapm : m ≤ cm ∧ cm ≤ 9223372036854775807 := by rw [hm]; exact hom.caps
    obtain ⟨hd1, hd2⟩ := hcapm
    rw [← hm] at IBM ⊢
    clear hR hbA hbM hmne hom hm HMV HSV
    go_wp2
    go_loopw [11, 12] (fun ck i wr => ∃ (k : Nat), k ≤ n ∧ i = .int .i64 k ∧ ck = .int .i64 (clkTo A who k) ∧ Hid (Below X.heap.size X wr)) (fun _ i _ => n - (intOf i).toNat)
    case atStart => exact ⟨0, Nat.zero_le _, rfl, rfl, HX3⟩
    case round =>
      obtain ⟨k, hk, rfl, rfl, HB⟩ := hrel
      by_cases hlt : k < n
      · have hltI : (k : Int) < (n : Int) := by omega
        have hkl : k < A.length := by rw [← HN.out]; exact hlt
        have hstep : clkTo A who (k + 1) = if (A.getD k evZ).a = who then (A.getD k evZ).b + 1 else clkTo A who k := rfl
        have hfy : (A.getD k evZ) ∈ A := by rw [getD_get hkl]; exact List.getElem_mem _
        have HLk : Hid (∀ w', Below X.heap.size X w' → EvAt w' g (k * 4) (A.getD k evZ)) := fun w' h => by
          have := (RL.out w' h).lies.1 k hkl
          rw [Nat.zero_add] at this
          exact this
        obtain ⟨y, hy⟩ : ∃ y, y = A.getD k evZ := ⟨_, rfl⟩
        rw [← hy] at hstep hfy HLk
        have HY : Hid (y ∈ A) := hfy
        have HS : Hid (_) := hstep
        obtain ⟨ck, hck⟩ : ∃ ck, ck = clkTo A who k := ⟨_, rfl⟩
        rw [← hck] at HS ⊢
        have hckb := HCK.out k hk
        rw [← hck] at hckb
        have HCk : Hid (ck = clkTo A who k) := hck
        have hyb : 1 ≤ y.b ∧ y.b ≤ 1000000 := by
          have := beatsL_fine HBA.out y hfy
          unfold Ev.fine inB at this
          simp only [Bool.and_eq_true, decide_eq_true_eq] at this
          exact this.2.1
        obtain ⟨hyb0, hyb1⟩ := hyb
        clear hstep hfy hy hck
        go_wp2
        go_loopw [13, 14] (fun th j wq => ∃ (p : Nat) (b : Bool), p ≤ m ∧ j = .int .i64 p ∧ th = .bool b ∧ Hid (b = (M.take p).any (fun z => Ev.same z y)) ∧ Hid (Below X.heap.size X wq)) (fun _ j _ => m - (intOf j).toNat)
        case atStart => exact ⟨0, false, Nat.zero_le _, rfl, rfl, rfl, HB⟩
        case round =>
          obtain ⟨p, b, hp, rfl, rfl, HBV, HBp⟩ := hrel
          by_cases hltp : p < m
          · have hltpI : (p : Int) < (m : Int) := by omega
            have hpl : p < M.length := by rw [← HMN.out]; exact hltp
            have am : EvAt wr gm (p * 4) (M.getD p evZ) := by
              have := (RM.out wr HBp.out).lies.1 p hpl
              rw [Nat.zero_add] at this
              exact this
            have bm : EvAt wr g (k * 4) y := HLk.out wr HBp.out
            have hany := anyS_succ M y p hpl
            obtain ⟨z, hz⟩ : ∃ z, z = M.getD p evZ := ⟨_, rfl⟩
            rw [← hz] at am hany
            have hne := Later.any wr
            have a0 : ∀ s : Later wr, s.val.cell? ⟨gm, p * 4, none⟩ = some (.int .i64 z.a) := fun s => s.cell am.c0
            have a1 : ∀ s : Later wr, s.val.cell? ⟨gm, p * 4 + 1, none⟩ = some (.int .i64 z.b) := fun s => s.cell am.c1
            have a2 : ∀ s : Later wr, s.val.cell? ⟨gm, p * 4 + 2, none⟩ = some (.int .i64 z.c) := fun s => s.cell am.c2
            have a3 : ∀ s : Later wr, s.val.cell? ⟨gm, p * 4 + 3, none⟩ = some (.string z.d) := fun s => s.cell am.c3
            have b0 : ∀ s : Later wr, s.val.cell? ⟨g, k * 4, none⟩ = some (.int .i64 y.a) := fun s => s.cell bm.c0
            have b1 : ∀ s : Later wr, s.val.cell? ⟨g, k * 4 + 1, none⟩ = some (.int .i64 y.b) := fun s => s.cell bm.c1
            have b2 : ∀ s : Later wr, s.val.cell? ⟨g, k * 4 + 2, none⟩ = some (.int .i64 y.c) := fun s => s.cell bm.c2
            have b3 : ∀ s : Later wr, s.val.cell? ⟨g, k * 4 + 3, none⟩ = some (.string y.d) := fun s => s.cell bm.c3
            cases b with
            | true =>
              cases hsm : Ev.same z y with
              | true =>
                have hql : ∀ w, (binOp .eql 32 (.agg #[.int .i64 z.a, .int .i64 z.b, .int .i64 z.c, .string z.d]) (.agg #[.int .i64 y.a, .int .i64 y.b, .int .i64 y.c, .string y.d])).run Try.prog w = .ok (.bool true) w := fun w => by rw [eqlE, hsm]
                have hgd : ∀ op p q w, (eqGuard op 32 p q (.agg #[.int .i64 z.a, .int .i64 z.b, .int .i64 z.c, .string z.d]) (.agg #[.int .i64 y.a, .int .i64 y.b, .int .i64 y.c, .string y.d])).run Try.prog w = .ok () w := fun op p q w => guardE op p q z y w
                have HBV' : Hid (true = (M.take (p + 1)).any (fun z => Ev.same z y)) := by show _ = _; rw [hany, ← HBV.out, hsm]; rfl
                clear hany hsm am bm hz
                go_wp2
                refine wp_region_later (by kernel_rfl) (by kernel_rfl) ?_
                repeat (go_big_quiet_step (fail))
                refine wpQuiet_nil ?_
                rintro w2 ⟨s, hs⟩
                have HB2 : Hid (Below X.heap.size X w2) := by rw [hs]; exact HBp.out.trans (s.ok.mono HBp.out.size)
                clear hs s
                go_wp2
                go_roundw
                case rel => exact ⟨p + 1, true, by omega, by go_num, rfl, HBV', HB2⟩
                case measure => simp [intOf]; omega
              | false =>
                have hql : ∀ w, (binOp .eql 32 (.agg #[.int .i64 z.a, .int .i64 z.b, .int .i64 z.c, .string z.d]) (.agg #[.int .i64 y.a, .int .i64 y.b, .int .i64 y.c, .string y.d])).run Try.prog w = .ok (.bool false) w := fun w => by rw [eqlE, hsm]
                have hgd : ∀ op p q w, (eqGuard op 32 p q (.agg #[.int .i64 z.a, .int .i64 z.b, .int .i64 z.c, .string z.d]) (.agg #[.int .i64 y.a, .int .i64 y.b, .int .i64 y.c, .string y.d])).run Try.prog w = .ok () w := fun op p q w => guardE op p q z y w
                have HBV' : Hid (true = (M.take (p + 1)).any (fun z => Ev.same z y)) := by show _ = _; rw [hany, ← HBV.out, hsm]; rfl
                clear hany hsm am bm hz
                go_wp2
                refine wp_region_later (by kernel_rfl) (by kernel_rfl) ?_
                repeat (go_big_quiet_step (fail))
                refine wpQuiet_nil ?_
                rintro w2 ⟨s, hs⟩
                have HB2 : Hid (Below X.heap.size X w2) := by rw [hs]; exact HBp.out.trans (s.ok.mono HBp.out.size)
                clear hs s
                go_wp2
                go_roundw
                case rel => exact ⟨p + 1, true, by omega, by go_num, rfl, HBV', HB2⟩
                case measure => simp [intOf]; omega
            | false =>
              cases hsm : Ev.same z y with
              | true =>
                have hql : ∀ w, (binOp .eql 32 (.agg #[.int .i64 z.a, .int .i64 z.b, .int .i64 z.c, .string z.d]) (.agg #[.int .i64 y.a, .int .i64 y.b, .int .i64 y.c, .string y.d])).run Try.prog w = .ok (.bool true) w := fun w => by rw [eqlE, hsm]
                have hgd : ∀ op p q w, (eqGuard op 32 p q (.agg #[.int .i64 z.a, .int .i64 z.b, .int .i64 z.c, .string z.d]) (.agg #[.int .i64 y.a, .int .i64 y.b, .int .i64 y.c, .string y.d])).run Try.prog w = .ok () w := fun op p q w => guardE op p q z y w
                have HBV' : Hid (true = (M.take (p + 1)).any (fun z => Ev.same z y)) := by show _ = _; rw [hany, ← HBV.out, hsm]; rfl
                clear hany hsm am bm hz
                go_wp2
                refine wp_region_later (by kernel_rfl) (by kernel_rfl) ?_
                repeat (go_big_quiet_step (fail))
                refine wpQuiet_nil ?_
                rintro w2 ⟨s, hs⟩
                have HB2 : Hid (Below X.heap.size X w2) := by rw [hs]; exact HBp.out.trans (s.ok.mono HBp.out.size)
                clear hs s
                go_wp2
                go_roundw
                case rel => exact ⟨p + 1, true, by omega, by go_num, rfl, HBV', HB2⟩
                case measure => simp [intOf]; omega
              | false =>
                have hql : ∀ w, (binOp .eql 32 (.agg #[.int .i64 z.a, .int .i64 z.b, .int .i64 z.c, .string z.d]) (.agg #[.int .i64 y.a, .int .i64 y.b, .int .i64 y.c, .string y.d])).run Try.prog w = .ok (.bool false) w := fun w => by rw [eqlE, hsm]
                have hgd : ∀ op p q w, (eqGuard op 32 p q (.agg #[.int .i64 z.a, .int .i64 z.b, .int .i64 z.c, .string z.d]) (.agg #[.int .i64 y.a, .int .i64 y.b, .int .i64 y.c, .string y.d])).run Try.prog w = .ok () w := fun op p q w => guardE op p q z y w
                have HBV' : Hid (false = (M.take (p + 1)).any (fun z => Ev.same z y)) := by show _ = _; rw [hany, ← HBV.out, hsm]; rfl
                clear hany hsm am bm hz
                go_wp2
                refine wp_region_later (by kernel_rfl) (by kernel_rfl) ?_
                repeat (go_big_quiet_step (fail))
                refine wpQuiet_nil ?_
                rintro w2 ⟨s, hs⟩
                have HB2 : Hid (Below X.heap.size X w2) := by rw [hs]; exact HBp.out.trans (s.ok.mono HBp.out.size)
                clear hs s
                go_wp2
                go_roundw
                case rel => exact ⟨p + 1, false, by omega, by go_num, rfl, HBV', HB2⟩
                case measure => simp [intOf]; omega
          · have hpe : p = m := by omega
            subst hpe
            have bm : EvAt wr g (k * 4) y := HLk.out wr HBp.out
            obtain ⟨c0, c1, c2, c3⟩ := bm
            have hb : b = M.any (fun z => Ev.same z y) := by rw [HBV.out, HMN.out, List.take_length]
            by_cases he : y.a = who
            · have heb : (y.a == who) = true := by simpa using he
              have hw1 : IntKind.i64.wrap (y.b + 1) = y.b + 1 := by rw [IntKind.wrap_i64]; omega
              have HF : Hid (clkTo A who (k + 1) = y.b + 1) := by show _ = _; rw [HS.out, if_pos he]
              clear hb he
              go_wp2
              go_roundw
              case rel => exact ⟨k + 1, by omega, by go_num, by rw [HF.out], HBp⟩
              case measure => simp [intOf]; omega
            · have heb : (y.a == who) = false := by simpa using he
              have HF : Hid (clkTo A who (k + 1) = ck) := by show _ = _; rw [HS.out, if_neg he]
              have hbt : b = true := by rw [hb]; exact anyS_mem (HST.out y HY.out he)
              subst hbt
              clear hb he
              go_wp2
              go_roundw
              case rel => exact ⟨k + 1, by omega, by go_num, by rw [HF.out], HBp⟩
              case measure => simp [intOf]; omega
      · have hke : k = n := by omega
        subst hke
        have hxe := HXB.out
        rw [hxe.1]
        obtain ⟨hx1, hx2, hx3, hx4⟩ := hxe
        subst hx2 hx3 hx4
        clear hx1
        go_wp2
        go_loopw [15, 16] (fun th j wq => ∃ (p : Nat) (b : Bool), p ≤ m ∧ j = .int .i64 p ∧ th = .bool b ∧ Hid (b = (M.take p).any (fun z => Ev.same z x)) ∧ Hid (Below X.heap.size X wq)) (fun _ j _ => m - (intOf j).toNat)
        case atStart => exact ⟨0, false, Nat.zero_le _, rfl, rfl, rfl, HB⟩
        case round =>
          obtain ⟨p, b, hp, rfl, rfl, HBV, HBp⟩ := hrel
          by_cases hltp : p < m
          · have hltpI : (p : Int) < (m : Int) := by omega
            have hpl : p < M.length := by rw [← HMN.out]; exact hltp
            have am : EvAt wr gm (p * 4) (M.getD p evZ) := by
              have := (RM.out wr HBp.out).lies.1 p hpl
              rw [Nat.zero_add] at this
              exact this
            have hany := anyS_succ M x p hpl
            obtain ⟨z, hz⟩ : ∃ z, z = M.getD p evZ := ⟨_, rfl⟩
            rw [← hz] at am hany
            have hne := Later.any wr
            obtain ⟨a0, a1, a2, a3⟩ := am
            cases b with
            | true =>
              cases hsm : Ev.same z x with
              | true =>
                have hql : ∀ w, (binOp .eql 32 (.agg #[.int .i64 z.a, .int .i64 z.b, .int .i64 z.c, .string z.d]) (.agg #[.int .i64 x.a, .int .i64 x.b, .int .i64 x.c, .string x.d])).run Try.prog w = .ok (.bool true) w := fun w => by rw [eqlE, hsm]
                have hgd : ∀ op p q w, (eqGuard op 32 p q (.agg #[.int .i64 z.a, .int .i64 z.b, .int .i64 z.c, .string z.d]) (.agg #[.int .i64 x.a, .int .i64 x.b, .int .i64 x.c, .string x.d])).run Try.prog w = .ok () w := fun op p q w => guardE op p q z x w
                have HBV' : Hid (true = (M.take (p + 1)).any (fun z => Ev.same z x)) := by show _ = _; rw [hany, ← HBV.out, hsm]; rfl
                clear hany hsm hz
                go_wp2
                go_roundw
                case rel => exact ⟨p + 1, true, by omega, by go_num, rfl, HBV', HBp⟩
                case measure => simp [intOf]; omega
              | false =>
                have hql : ∀ w, (binOp .eql 32 (.agg #[.int .i64 z.a, .int .i64 z.b, .int .i64 z.c, .string z.d]) (.agg #[.int .i64 x.a, .int .i64 x.b, .int .i64 x.c, .string x.d])).run Try.prog w = .ok (.bool false) w := fun w => by rw [eqlE, hsm]
                have hgd : ∀ op p q w, (eqGuard op 32 p q (.agg #[.int .i64 z.a, .int .i64 z.b, .int .i64 z.c, .string z.d]) (.agg #[.int .i64 x.a, .int .i64 x.b, .int .i64 x.c, .string x.d])).run Try.prog w = .ok () w := fun op p q w => guardE op p q z x w
                have HBV' : Hid (true = (M.take (p + 1)).any (fun z => Ev.same z x)) := by show _ = _; rw [hany, ← HBV.out, hsm]; rfl
                clear hany hsm hz
                go_wp2
                go_roundw
                case rel => exact ⟨p + 1, true, by omega, by go_num, rfl, HBV', HBp⟩
                case measure => simp [intOf]; omega
            | false =>
              cases hsm : Ev.same z x with
              | true =>
                have hql : ∀ w, (binOp .eql 32 (.agg #[.int .i64 z.a, .int .i64 z.b, .int .i64 z.c, .string z.d]) (.agg #[.int .i64 x.a, .int .i64 x.b, .int .i64 x.c, .string x.d])).run Try.prog w = .ok (.bool true) w := fun w => by rw [eqlE, hsm]
                have hgd : ∀ op p q w, (eqGuard op 32 p q (.agg #[.int .i64 z.a, .int .i64 z.b, .int .i64 z.c, .string z.d]) (.agg #[.int .i64 x.a, .int .i64 x.b, .int .i64 x.c, .string x.d])).run Try.prog w = .ok () w := fun op p q w => guardE op p q z x w
                have HBV' : Hid (true = (M.take (p + 1)).any (fun z => Ev.same z x)) := by show _ = _; rw [hany, ← HBV.out, hsm]; rfl
                clear hany hsm hz
                go_wp2
                go_roundw
                case rel => exact ⟨p + 1, true, by omega, by go_num, rfl, HBV', HBp⟩
                case measure => simp [intOf]; omega
              | false =>
                have hql : ∀ w, (binOp .eql 32 (.agg #[.int .i64 z.a, .int .i64 z.b, .int .i64 z.c, .string z.d]) (.agg #[.int .i64 x.a, .int .i64 x.b, .int .i64 x.c, .string x.d])).run Try.prog w = .ok (.bool false) w := fun w => by rw [eqlE, hsm]
                have hgd : ∀ op p q w, (eqGuard op 32 p q (.agg #[.int .i64 z.a, .int .i64 z.b, .int .i64 z.c, .string z.d]) (.agg #[.int .i64 x.a, .int .i64 x.b, .int .i64 x.c, .string x.d])).run Try.prog w = .ok () w := fun op p q w => guardE op p q z x w
                have HBV' : Hid (false = (M.take (p + 1)).any (fun z => Ev.same z x)) := by show _ = _; rw [hany, ← HBV.out, hsm]; rfl
                clear hany hsm hz
                go_wp2
                go_roundw
                case rel => exact ⟨p + 1, false, by omega, by go_num, rfl, HBV', HBp⟩
                case measure => simp [intOf]; omega
          · have hpe : p = m := by omega
            subst hpe
            have hbt : b = true := by rw [HBV.out, HMN.out, List.take_length]; exact anyS_mem HXM.out
            subst hbt
            go_wp2_with fail
            refine (IBM.out _ HBp.out).mono ?_
            rintro e x5 ⟨rfl, q5⟩
            have HX5 : Hid (Below X.heap.size X x5) := HBp.out.trans (q5.mono HBp.out.size)
            clear q5
            go_wp2
            go_ret
            exact ⟨rfl, HB3.out.trans (HX5.out.mono HB3.out.size)⟩

set_option maxRecDepth 100000 in
theorem beaten_lifted (os : Os) (started : os.Started) (H : Type) (enc : TypeId × Value → H) :
    ReturnsInHanded {} Try.checked os 3 .any (Rows.fnBeatenSpec.pre6 enc Try.prog Try.f3 Rows.fnBeatenRow.domain false) (Rows.fnBeatenSpec.post enc Try.prog Try.f3 false true false false) := by
  refine returnsInHanded_of_change (C := Try.checked) own started (by kernel_rfl) Try.func3
    (ChangeSpec.witness6 (enc := enc) (C := Try.checked) false ⟨#[], #[.slice none 0 0], []⟩ 8 (by kernel_rfl) (by kernel_rfl) (by kernel_rfl) (by kernel_rfl)) ?_
  intro W base args ds gs before hval0 hW hcnd _
  have hval : ∀ (j : Nat) t v, Try.f3.params[j]? = some t → args[j]? = some v → Value.okWide Try.prog W .any base t v := hval0
  have hW' := hW
  obtain ⟨p, q, hA0, hV, rfl, hfz, hnd⟩ := hW
  have hA : DataW.TrodAll enc Try.prog W 0 (fun _ => true) true Try.f3.params.toList args.toList ds p := hA0
  rw [Try.params3] at hA hval
  obtain ⟨v0, vs0, d0, ds0, p0, q0, hargs, rfl, rfl, h0, r0⟩ := trodAll_cons hA
  obtain ⟨rfl, rfl, rfl⟩ := trodAll_nil r0
  obtain rfl : args = #[v0] := by cases args; simp_all
  obtain ⟨rfl, rfl⟩ := trodVars_none hV
  obtain ⟨a0, len0, cap0, rfl⟩ := okWide_slice Try.underlying22 (hval 0 22 v0 rfl rfl)
  have k0 := h0
  have lt0 : ∀ x ∈ p0, x.block < W.heap.size := by obtain ⟨m, hm⟩ := k0; exact DataW.trod_lt m _ _ _ hm
  obtain ⟨Z, w0⟩ : ∃ Z, IsU8 W a0 len0 cap0 Z := by
    obtain ⟨fuel, hf⟩ := h0
    obtain ⟨a, len, cap, Z, e, hI⟩ := open_u8 (by simpa [Value.cells] using hf)
    simp at e
    obtain ⟨rfl, rfl, rfl⟩ := e
    exact ⟨Z, hI⟩
  clear hA0 hval0
  refine (beaten_walk W w0).mono fun e W' ⟨he, bel⟩ => ?_
  subst he
  exact ⟨_, rfl, _, _, _, [], _, [], hW', trodAll_mk1 (shut_bool Try.underlying4 _), (trodAll_cons_mk (Below.trod laidOut (by kernel_rfl) (of_decide_eq_true (by kernel_rfl)) k0 bel lt0) trodAll_mk0), rfl, bel.frame _, fun h => by cases h⟩

theorem beaten_proved : Rows.FnBeatenSaid :=
  OpenClaim.holds_of_wide 3 Try.f3 rfl rfl rfl rfl rfl rfl rfl ⟨rfl, rfl, rfl, rfl, rfl⟩ rfl rfl rfl rfl rfl (by kernel_rfl) Try.func3 (by kernel_rfl)
    (of_decide_eq_true (by kernel_rfl)) (by unfold Func.isWrapper; first | (rw [if_pos (by decide +kernel)]; kernel_rfl) | (rw [if_neg (by decide +kernel)]; exact ⟨rfl, rfl⟩))
    (fun os started H enc _ => beaten_lifted os started H enc)
#print axioms beaten_proved
end Go.Proofs.Ytnjlegphohmajaa
