/-
  The statement FnAliveSaid: at every code the law returns true, and the code reads afterwards as it read before. No condition.
-/
import Derived.Test.YtnjlegphohmajaaBdS
import Derived.Test.YtnjlegphohmajaaBdAP
import Derived.Test.YtnjlegphohmajaaOpenU4
namespace Go.Proofs.Ytnjlegphohmajaa
open Go.ChangeShapes Go.WideShapes Go.ChangeAt Go.RowKit Go.Deep
set_option linter.unusedVariables false

set_option maxRecDepth 10000 in
set_option maxHeartbeats 8000000 in
theorem alive_walk {a : Option Addr} {len cap : Nat} {Z : Nat → Int} (W : World) (hU : IsU8 W a len cap Z) :
    Calls Try.prog 5 #[.slice a len cap] W fun e w' => e = .returned (.bool true) ∧ Below W.heap.size W w' := by
  go_enter Try.func5, Try.ntmps5
  go_wp2_with fail
  refine (big_any _ _ _ _).mono ?_
  rintro e w0 ⟨rfl, rfl⟩
  by_cases hbg : (1048576 : Int) < (len : Int)
  · go_wp2
    go_ret
    exact ⟨rfl, Below.refl _ _⟩
  have hbd : decide ((1048576 : Int) < (len : Int)) = false := by simpa using hbg
  clear hbg
  go_wp2_with fail
  refine (drawAlive_any hU).mono ?_
  rintro e w1 ⟨g, c, A, now, rfl, hA, hn, hO, hB⟩
  have HF : Hid (∀ i, i < A.length → (A.getD i evZ).in) := fun i hi => (hA.2 _ (by rw [getD_get hi]; exact List.getElem_mem _)).2.2
  go_wp2_with fail
  refine (implAlive_any _ _ _ _ now _ hO.evs HF.out).mono ?_
  rintro e w2 ⟨va, rfl, hO2, hB2⟩
  have o2 := hO.below hB2
  go_wp2_with fail
  refine (implPruned_any _ _ _ _ now _ o2.evs HF.out).mono ?_
  rintro e X ⟨vp, rfl, hO3, hB3⟩
  have o3 := o2.below hB3
  have HB3 : Hid (Below w0.heap.size w0 X) := (hB.trans (hB2.mono hB.size)).trans (hB3.mono (hB.trans (hB2.mono hB.size)).size)
  have RL : Hid (∀ w', Below X.heap.size X w' → OwnE w' w0.heap.size g c A) := fun w' h => o3.below h
  obtain ⟨P, hP⟩ : ∃ P, P = prR (fun i => A.getD i evZ) A.length now := ⟨_, rfl⟩
  obtain ⟨I, hI⟩ : ∃ I, I = alR (fun i => A.getD i evZ) A.length now := ⟨_, rfl⟩
  have RA : Hid (∀ w', Below X.heap.size X w' → RdI w' va I) := fun w' h => by rw [hI]; exact ((hO2.below hB3).below h).rd
  have RP : Hid (∀ w', Below X.heap.size X w' → RdV w' vp P) := fun w' h => by rw [hP]; exact (hO3.below h).rd
  have SA : Hid (∀ w', Below X.heap.size X w' → Calls Try.prog 23 #[.slice (some ⟨g, 0, none⟩) A.length c, .int .i64 now] w' fun e w'' => ∃ v, e = .returned v ∧ OwnI w'' w'.heap.size v I ∧ Below w'.heap.size w' w'') := fun w' h => by rw [hI]; exact specAlive_any _ _ _ _ now w' (o3.below h).evs HF.out
  have SP : Hid (∀ w', Below X.heap.size X w' → Calls Try.prog 24 #[.slice (some ⟨g, 0, none⟩) A.length c, .int .i64 now] w' fun e w'' => ∃ v, e = .returned v ∧ OwnV w'' w'.heap.size v P ∧ Below w'.heap.size w' w'') := fun w' h => by rw [hP]; exact specPruned_any _ _ _ _ now w' (o3.below h).evs HF.out
  have HP : Hid (P = prR (fun i => A.getD i evZ) A.length now ∧ I = alR (fun i => A.getD i evZ) A.length now) := ⟨hP, hI⟩
  have HX : Hid (Below X.heap.size X X) := Below.refl _ _
  have HA : Hid (Drawn A) := hA
  have SB : Hid (∀ w', Below X.heap.size X w' → Calls Try.prog 14 #[.slice (some ⟨g, 0, none⟩) A.length c] w' fun e w'' => e = .returned (.bool (beatsL A)) ∧ Below w'.heap.size w' w'') := fun w' h => specBeats_any _ _ _ _ w' (o3.below h).evs HF.out
  have AL : Hid (∀ w' t, Below X.heap.size X w' → Calls Try.prog 20 #[.slice (some ⟨g, 0, none⟩) A.length c, .int .i64 t] w' fun e w'' => ∃ v, e = .returned v ∧ OwnI w'' w'.heap.size v (alR (fun i => A.getD i evZ) A.length t) ∧ Below w'.heap.size w' w'') := fun w' t h => implAlive_any _ _ _ _ t w' (o3.below h).evs HF.out
  obtain ⟨ap, cp, hvp, _⟩ := RP.out X (Below.refl _ _)
  subst hvp
  have RPe : Hid (∀ w', Below X.heap.size X w' → IsEvs w' ap P.length cp (fun i => P.getD i evZ)) := fun w' h => by
    obtain ⟨a', c', e, hI'⟩ := RP.out w' h
    simp at e
    obtain ⟨rfl, rfl⟩ := e
    exact hI'
  obtain ⟨n, hnl⟩ : ∃ n, n = A.length := ⟨_, rfl⟩
  have HN : Hid (n = A.length) := hnl
  have hcap : n ≤ c ∧ c ≤ 9223372036854775807 := by rw [hnl]; exact hO.caps
  obtain ⟨hc1, hc2⟩ := hcap
  rw [← hnl] at SA SP SB AL ⊢
  clear hP hI hO hO2 hO3 o2 o3 hB hB2 hB3 hA hnl
  go_wp2_with fail
  refine (SA.out _ HX.out).mono ?_
  rintro e x1 ⟨u1, rfl, r1, q1⟩
  have HX1 : Hid (Below X.heap.size X x1) := HX.out.trans (q1.mono HX.out.size)
  go_wp2_with fail
  refine (sameI_same _ _ _ _ (RA.out _ HX1.out) r1.rd).mono ?_
  rintro e x2 ⟨rfl, q2⟩
  have HX2 : Hid (Below X.heap.size X x2) := HX1.out.trans (q2.mono HX1.out.size)
  clear q1 q2 r1
  go_wp2_with fail
  refine (SP.out _ HX2.out).mono ?_
  rintro e x3 ⟨u3, rfl, r3, q3⟩
  have HX3 : Hid (Below X.heap.size X x3) := HX2.out.trans (q3.mono HX2.out.size)
  go_wp2_with fail
  refine (same_any _ _ _ _ (RP.out _ HX3.out) r3.rd).mono ?_
  rintro e x4 ⟨rfl, q4⟩
  have HX4 : Hid (Below X.heap.size X x4) := HX3.out.trans (q4.mono HX3.out.size)
  clear q3 q4 r3
  go_wp2_with fail
  refine (SB.out _ HX4.out).mono ?_
  rintro e x5 ⟨rfl, q5⟩
  have HXb : Hid (Below X.heap.size X x5) := HX4.out.trans (q5.mono HX4.out.size)
  clear q5
  cases hb : beatsL A with
  | false =>
    go_wp2_with fail
    refine (SA.out _ HXb.out).mono ?_
    rintro e y1 ⟨z1, rfl, r1, q1⟩
    have HY1 : Hid (Below X.heap.size X y1) := HXb.out.trans (q1.mono HXb.out.size)
    go_wp2_with fail
    refine (sameI_same _ _ _ _ (RA.out _ HY1.out) r1.rd).mono ?_
    rintro e y2 ⟨rfl, q2⟩
    have HY2 : Hid (Below X.heap.size X y2) := HY1.out.trans (q2.mono HY1.out.size)
    clear q1 q2 r1
    go_wp2_with fail
    refine (SP.out _ HY2.out).mono ?_
    rintro e y3 ⟨z3, rfl, r3, q3⟩
    have HY3 : Hid (Below X.heap.size X y3) := HY2.out.trans (q3.mono HY2.out.size)
    go_wp2_with fail
    refine (same_any _ _ _ _ (RP.out _ HY3.out) r3.rd).mono ?_
    rintro e y4 ⟨rfl, q4⟩
    have HY4 : Hid (Below X.heap.size X y4) := HY3.out.trans (q4.mono HY3.out.size)
    clear q3 q4 r3
    go_wp2
    go_ret
    exact ⟨rfl, HB3.out.trans (HY4.out.mono HB3.out.size)⟩
  | true =>
    by_cases h0 : now < 0
    · have hnd : decide (now < 0) = true := decide_eq_true h0
      go_wp2_with fail
      refine (SA.out _ HXb.out).mono ?_
      rintro e y1 ⟨z1, rfl, r1, q1⟩
      have HY1 : Hid (Below X.heap.size X y1) := HXb.out.trans (q1.mono HXb.out.size)
      go_wp2_with fail
      refine (sameI_same _ _ _ _ (RA.out _ HY1.out) r1.rd).mono ?_
      rintro e y2 ⟨rfl, q2⟩
      have HY2 : Hid (Below X.heap.size X y2) := HY1.out.trans (q2.mono HY1.out.size)
      clear q1 q2 r1
      go_wp2_with fail
      refine (SP.out _ HY2.out).mono ?_
      rintro e y3 ⟨z3, rfl, r3, q3⟩
      have HY3 : Hid (Below X.heap.size X y3) := HY2.out.trans (q3.mono HY2.out.size)
      go_wp2_with fail
      refine (same_any _ _ _ _ (RP.out _ HY3.out) r3.rd).mono ?_
      rintro e y4 ⟨rfl, q4⟩
      have HY4 : Hid (Below X.heap.size X y4) := HY3.out.trans (q4.mono HY3.out.size)
      clear q3 q4 r3
      go_wp2
      go_ret
      exact ⟨rfl, HB3.out.trans (HY4.out.mono HB3.out.size)⟩
    have h0d : decide (now < 0) = false := decide_eq_false h0
    by_cases h1 : 999900 < now
    · have hnd : decide ((999900 : Int) < now) = true := decide_eq_true h1
      go_wp2_with fail
      refine (SA.out _ HXb.out).mono ?_
      rintro e y1 ⟨z1, rfl, r1, q1⟩
      have HY1 : Hid (Below X.heap.size X y1) := HXb.out.trans (q1.mono HXb.out.size)
      go_wp2_with fail
      refine (sameI_same _ _ _ _ (RA.out _ HY1.out) r1.rd).mono ?_
      rintro e y2 ⟨rfl, q2⟩
      have HY2 : Hid (Below X.heap.size X y2) := HY1.out.trans (q2.mono HY1.out.size)
      clear q1 q2 r1
      go_wp2_with fail
      refine (SP.out _ HY2.out).mono ?_
      rintro e y3 ⟨z3, rfl, r3, q3⟩
      have HY3 : Hid (Below X.heap.size X y3) := HY2.out.trans (q3.mono HY2.out.size)
      go_wp2_with fail
      refine (same_any _ _ _ _ (RP.out _ HY3.out) r3.rd).mono ?_
      rintro e y4 ⟨rfl, q4⟩
      have HY4 : Hid (Below X.heap.size X y4) := HY3.out.trans (q4.mono HY3.out.size)
      clear q3 q4 r3
      go_wp2
      go_ret
      exact ⟨rfl, HB3.out.trans (HY4.out.mono HB3.out.size)⟩
    have h1d : decide ((999900 : Int) < now) = false := decide_eq_false h1
    have hr : 0 ≤ now ∧ now ≤ 1000000 := ⟨by omega, by omega⟩
    have HI : Hid (I = (A.filter (alB now)).map (·.a)) := by show _ = _; rw [HP.out.2]; exact alR_L hb hr
    have HPe : Hid (P = A.filter (keepB now)) := by show _ = _; rw [HP.out.1]; exact prR_L hb hr
    have HU : Hid (UpB A) := HA.out.1
    have HBA : Hid (beatsL A = true) := hb
    have hnn : 0 ≤ now ∧ now ≤ 999900 := ⟨by omega, by omega⟩
    obtain ⟨hn0, hn1⟩ := hnn
    clear h0 h1 hr hb
    go_wp2
    go_loopw [7] (fun i wr => ∃ (k : Nat), k ≤ n ∧ i = .int .i64 k ∧ Hid (Below X.heap.size X wr)) (fun i _ => n - (intOf i).toNat)
    case atStart => exact ⟨0, Nat.zero_le _, rfl, HXb⟩
    case round =>
      obtain ⟨k, hk, rfl, HB⟩ := hrel
      by_cases hlt : k < n
      · have hltI : (k : Int) < (n : Int) := by omega
        have m0 := (RL.out wr HB.out).lies.1 k (by rw [← HN.out]; exact hlt)
        rw [Nat.zero_add] at m0
        have hh := hasI_alive HU.out now (x := A.getD k evZ) (by rw [getD_get (by rw [← HN.out]; exact hlt)]; exact List.getElem_mem _)
        rw [← HI.out] at hh
        have hfin : (A.getD k evZ).fine = true := beatsL_fine HBA.out _ (by rw [getD_get (by rw [← HN.out]; exact hlt)]; exact List.getElem_mem _)
        have hfc := fine_c hfin
        obtain ⟨y, hy⟩ : ∃ y, y = A.getD k evZ := ⟨_, rfl⟩
        rw [← hy] at m0 hh hfc
        have hne := Later.any wr
        have c0 : ∀ s : Later wr, s.val.cell? ⟨g, k * 4, none⟩ = some (.int .i64 y.a) := fun s => s.cell m0.c0
        have c2 : ∀ s : Later wr, s.val.cell? ⟨g, k * 4 + 2, none⟩ = some (.int .i64 y.c) := fun s => s.cell m0.c2
        clear m0
        obtain ⟨hf0, hf1⟩ := hfc
        have RAk : Hid (RdI wr va I) := RA.out wr HB.out
        have HH : Hid (hasI I y.a = alB now y) := hh
        clear hy hfin hh
        by_cases hq1 : y.c ≤ now
        · by_cases hq2 : now - y.c ≤ 30
          · skip
            have hal : hasI I y.a = true := by rw [HH.out]; unfold alB keepB; simp; omega
            have HC : Hid (∀ s : Later wr, Calls Try.prog 25 #[va, .int .i64 y.a] s.val fun e w'' => e = .returned (.bool true) ∧ ∃ s' : Later wr, w'' = s'.val) := fun s => by
              rw [← hal]
              exact (hasInt_any va I y.a s.val (RAk.out.below s.ok)).mono fun e w' ⟨h1, h2⟩ => ⟨h1, s, h2⟩
            clear hal
            go_wp2
            refine wp_region_later (by kernel_rfl) (by kernel_rfl) ?_
            repeat (go_big_quiet_step ((rename_i t; with_reducible exact HC.out t)))
            refine wpQuiet_nil ?_
            rintro w2 ⟨s, hs⟩
            have HB : Hid (Below X.heap.size X w2) := by rw [hs]; exact HB.out.trans (s.ok.mono HB.out.size)
            clear hs s
            go_wp2
            go_roundw
            case rel => exact ⟨k + 1, by omega, by go_num, HB⟩
            case measure => simp [intOf]; omega
          · have hq2d : decide (now - y.c ≤ 30) = false := decide_eq_false hq2
            have hal : hasI I y.a = false := by rw [HH.out]; unfold alB keepB; simp; omega
            have HC : Hid (∀ s : Later wr, Calls Try.prog 25 #[va, .int .i64 y.a] s.val fun e w'' => e = .returned (.bool false) ∧ ∃ s' : Later wr, w'' = s'.val) := fun s => by
              rw [← hal]
              exact (hasInt_any va I y.a s.val (RAk.out.below s.ok)).mono fun e w' ⟨h1, h2⟩ => ⟨h1, s, h2⟩
            clear hal
            go_wp2
            refine wp_region_later (by kernel_rfl) (by kernel_rfl) ?_
            repeat (go_big_quiet_step ((rename_i t; with_reducible exact HC.out t)))
            refine wpQuiet_nil ?_
            rintro w2 ⟨s, hs⟩
            have HB : Hid (Below X.heap.size X w2) := by rw [hs]; exact HB.out.trans (s.ok.mono HB.out.size)
            clear hs s
            go_wp2
            go_roundw
            case rel => exact ⟨k + 1, by omega, by go_num, HB⟩
            case measure => simp [intOf]; omega
        · have hq1d : decide (y.c ≤ now) = false := decide_eq_false hq1
          have hal : hasI I y.a = false := by rw [HH.out]; unfold alB keepB; simp; omega
          have HC : Hid (∀ s : Later wr, Calls Try.prog 25 #[va, .int .i64 y.a] s.val fun e w'' => e = .returned (.bool false) ∧ ∃ s' : Later wr, w'' = s'.val) := fun s => by
            rw [← hal]
            exact (hasInt_any va I y.a s.val (RAk.out.below s.ok)).mono fun e w' ⟨h1, h2⟩ => ⟨h1, s, h2⟩
          clear hal
          go_wp2
          refine wp_region_later (by kernel_rfl) (by kernel_rfl) ?_
          repeat (go_big_quiet_step ((rename_i t; with_reducible exact HC.out t)))
          refine wpQuiet_nil ?_
          rintro w2 ⟨s, hs⟩
          have HB : Hid (Below X.heap.size X w2) := by rw [hs]; exact HB.out.trans (s.ok.mono HB.out.size)
          clear hs s
          go_wp2
          go_roundw
          case rel => exact ⟨k + 1, by omega, by go_num, HB⟩
          case measure => simp [intOf]; omega
      · have hke : k = n := by omega
        subst hke
        have HFP : Hid (∀ i, i < P.length → (P.getD i evZ).in) := fun i hi => by
          have h1 : P.getD i evZ ∈ P := by rw [getD_get hi]; exact List.getElem_mem _
          rw [HPe.out] at h1
          have h2 := (List.mem_filter.1 h1).1
          rw [← HPe.out] at h2
          exact (HA.out.2 _ h2).2.2
        have HPB : Hid (beatsL P = true) := by show _ = _; rw [HPe.out]; exact filter_ok HBA.out _
        have AE : Hid (∀ t, now ≤ t → t ≤ 1000000 → alR (fun i => P.getD i evZ) P.length t = alR (fun i => A.getD i evZ) A.length t) := fun t h1 h2 => by
          rw [alR_L HPB.out ⟨by omega, h2⟩, alR_L HBA.out ⟨by omega, h2⟩]
          conv => lhs; rw [HPe.out]
          exact alive_later now t h1
        have AP : Hid (∀ w' t, Below X.heap.size X w' → Calls Try.prog 20 #[.slice ap P.length cp, .int .i64 t] w' fun e w'' => ∃ v, e = .returned v ∧ OwnI w'' w'.heap.size v (alR (fun i => P.getD i evZ) P.length t) ∧ Below w'.heap.size w' w'') := fun w' t h => implAlive_any _ _ _ _ t w' (RPe.out w' h) HFP.out
        have BP : Hid (∀ w', Below X.heap.size X w' → Calls Try.prog 13 #[.slice ap P.length cp] w' fun e w'' => e = .returned (.bool true) ∧ Below w'.heap.size w' w'') := fun w' h => by rw [← HPB.out]; exact implBeats_any _ _ _ _ w' (RPe.out w' h) HFP.out
        have PP : Hid (∀ w', Below X.heap.size X w' → Calls Try.prog 21 #[.slice ap P.length cp, .int .i64 now] w' fun e w'' => ∃ v, e = .returned v ∧ OwnV w'' w'.heap.size v P ∧ Below w'.heap.size w' w'') := fun w' h => by
          have h1 := implPruned_any _ _ _ _ now w' (RPe.out w' h) HFP.out
          rw [prR_L HPB.out ⟨hn0, by omega⟩] at h1
          have e : P.filter (keepB now) = P := by have h2 := keep_again (A := A) now; rw [← HPe.out] at h2; exact h2
          rw [e] at h1
          exact h1
        go_wp2
        go_loopw [8] (fun i wr => ∃ (j : Nat) (y : Int), j ≤ 8 ∧ Hid (y = 7 * (j : Int)) ∧ i = .int .i64 y ∧ Hid (Below X.heap.size X wr)) (fun i _ => 57 - (intOf i).toNat)
        case atStart => exact ⟨0, 0, by omega, rfl, rfl, HB⟩
        case round =>
          obtain ⟨j, y, hj, HY, rfl, HBj⟩ := hrel
          have hy := HY.out
          by_cases hj8 : j < 8
          · have hlt50 : y < 50 := by omega
            have hy0 : 0 ≤ y := by omega
            have hwr : IntKind.i64.wrap (now + y) = now + y := by rw [IntKind.wrap_i64]; omega
            have hwr2 : IntKind.i64.wrap (y + 7) = y + 7 := by rw [IntKind.wrap_i64]; omega
            have hae := AE.out (now + y) (by omega) (by omega)
            have HAE : Hid (_) := hae
            have HJ : Hid (j < 8) := hj8
            clear hae hy hj8
            go_wp2_with fail
            refine (AP.out _ (now + y) HBj.out).mono ?_
            rintro e x1 ⟨u1, rfl, r1, q1⟩
            have HX1 : Hid (Below X.heap.size X x1) := HBj.out.trans (q1.mono HBj.out.size)
            go_wp2_with fail
            refine (AL.out _ (now + y) HX1.out).mono ?_
            rintro e x2 ⟨u2, rfl, r2, q2⟩
            have HX2 : Hid (Below X.heap.size X x2) := HX1.out.trans (q2.mono HX1.out.size)
            have r1' := r1.below q2
            rw [HAE.out, ← HN.out] at r1'
            go_wp2_with fail
            refine (sameI_same _ _ _ _ r1'.rd r2.rd).mono ?_
            rintro e x3 ⟨rfl, q3⟩
            have HX3 : Hid (Below X.heap.size X x3) := HX2.out.trans (q3.mono HX2.out.size)
            clear q1 q2 q3 r1 r1' r2
            go_wp2
            go_roundw
            case rel => exact ⟨j + 1, y + 7, by have := HJ.out; omega, by show _ = _; have := HY.out; omega, rfl, HX3⟩
            case measure => have := HY.out; simp [intOf]; omega
          · have hge : decide (y < 50) = false := decide_eq_false (by omega)
            clear hy hj8
            go_wp2_with fail
            refine (BP.out _ HBj.out).mono ?_
            rintro e x1 ⟨rfl, q1⟩
            have HX1 : Hid (Below X.heap.size X x1) := HBj.out.trans (q1.mono HBj.out.size)
            go_wp2_with fail
            refine (PP.out _ HX1.out).mono ?_
            rintro e x2 ⟨u2, rfl, r2, q2⟩
            have HX2 : Hid (Below X.heap.size X x2) := HX1.out.trans (q2.mono HX1.out.size)
            go_wp2_with fail
            refine (same_any _ _ _ _ r2.rd (RP.out _ HX2.out)).mono ?_
            rintro e x3 ⟨rfl, q3⟩
            have HX3 : Hid (Below X.heap.size X x3) := HX2.out.trans (q3.mono HX2.out.size)
            clear q1 q2 q3 r2
            go_wp2
            go_ret
            exact ⟨rfl, HB3.out.trans (HX3.out.mono HB3.out.size)⟩

set_option maxRecDepth 100000 in
theorem alive_lifted (os : Os) (started : os.Started) (H : Type) (enc : TypeId × Value → H) :
    ReturnsInHanded {} Try.checked os 5 .any (Rows.fnAliveSpec.pre6 enc Try.prog Try.f5 Rows.fnAliveRow.domain false) (Rows.fnAliveSpec.post enc Try.prog Try.f5 false true false false) := by
  refine returnsInHanded_of_change (C := Try.checked) own started (by kernel_rfl) Try.func5
    (ChangeSpec.witness6 (enc := enc) (C := Try.checked) false ⟨#[], #[.slice none 0 0], []⟩ 8 (by kernel_rfl) (by kernel_rfl) (by kernel_rfl) (by kernel_rfl)) ?_
  intro W base args ds gs before hval0 hW hcnd _
  have hval : ∀ (j : Nat) t v, Try.f5.params[j]? = some t → args[j]? = some v → Value.okWide Try.prog W .any base t v := hval0
  have hW' := hW
  obtain ⟨p, q, hA0, hV, rfl, hfz, hnd⟩ := hW
  have hA : DataW.TrodAll enc Try.prog W 0 (fun _ => true) true Try.f5.params.toList args.toList ds p := hA0
  rw [Try.params5] at hA hval
  obtain ⟨v0, vs0, d0, ds0, p0, q0, hargs, rfl, rfl, h0, r0⟩ := trodAll_cons hA
  obtain ⟨rfl, rfl, rfl⟩ := trodAll_nil r0
  obtain rfl : args = #[v0] := by cases args; simp_all
  obtain ⟨rfl, rfl⟩ := trodVars_none hV
  obtain ⟨a0, len0, cap0, rfl⟩ := okWide_slice Try.underlying22 (hval 0 22 v0 rfl rfl)
  have k0 := h0
  have lt0 : ∀ x ∈ p0, x.block < W.heap.size := by obtain ⟨m, hm⟩ := k0; exact DataW.trod_lt m _ _ _ hm
  obtain ⟨Z, w0⟩ : ∃ Z, IsU8 W a0 len0 cap0 Z := by
    obtain ⟨fuel, hf⟩ := h0
    obtain ⟨a, len, cap, Z, e, hI⟩ := open_u8 (by simpa [Value.cells] using hf)
    simp at e
    obtain ⟨rfl, rfl, rfl⟩ := e
    exact ⟨Z, hI⟩
  clear hA0 hval0
  refine (alive_walk W w0).mono fun e W' ⟨he, bel⟩ => ?_
  subst he
  exact ⟨_, rfl, _, _, _, [], _, [], hW', trodAll_mk1 (shut_bool Try.underlying4 _), (trodAll_cons_mk (Below.trod laidOut (by kernel_rfl) (of_decide_eq_true (by kernel_rfl)) k0 bel lt0) trodAll_mk0), rfl, bel.frame _, fun h => by cases h⟩

theorem alive_proved : Rows.FnAliveSaid :=
  OpenClaim.holds_of_wide 5 Try.f5 rfl rfl rfl rfl rfl rfl rfl ⟨rfl, rfl, rfl, rfl, rfl⟩ rfl rfl rfl rfl rfl (by kernel_rfl) Try.func5 (by kernel_rfl)
    (of_decide_eq_true (by kernel_rfl)) (by unfold Func.isWrapper; first | (rw [if_pos (by decide +kernel)]; kernel_rfl) | (rw [if_neg (by decide +kernel)]; exact ⟨rfl, rfl⟩))
    (fun os started H enc _ => alive_lifted os started H enc)
#print axioms alive_proved
end Go.Proofs.Ytnjlegphohmajaa
