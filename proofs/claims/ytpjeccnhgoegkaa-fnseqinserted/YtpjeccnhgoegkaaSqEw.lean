/-
  The statement FnSeqInsertedSaid: at every code the law returns true, and the code reads afterwards as it read before. No condition.
-/
import Derived.Test.YtpjeccnhgoegkaaSqDi
import Derived.Test.YtpjeccnhgoegkaaSqPd
import Derived.Test.YtpjeccnhgoegkaaOpenU5
import Derived.Test.YtpjeccnhgoegkaaRows
namespace Go.Proofs.Ytpjeccnhgoegkaa
open Go.ChangeShapes Go.WideShapes Go.ChangeAt Go.RowKit Go.Deep
set_option linter.unusedVariables false

theorem nid_mod {D : Nat → Ev} {n : Nat} {author : Int} (hs : seqB D n = true) (ha : inB 1 9 author = true) : (nid D n author) % 10 = author ∧ 0 ≤ nid D n author ∧ nid D n author ≤ 2000000 := by
  have h1 := last_in hs
  unfold inB at ha
  simp only [Bool.and_eq_true, decide_eq_true_eq] at ha
  unfold nid
  omega

set_option maxRecDepth 10000 in
set_option maxHeartbeats 8000000 in
theorem sqins_walk {a : Option Addr} {len cap : Nat} {Z : Nat → Int} (W : World) (hU : IsU8 W a len cap Z) :
    Calls Try.prog 4 #[.slice a len cap] W fun e w' => e = .returned (.bool true) ∧ Below W.heap.size W w' := by
  go_enter Try.func4, Try.ntmps4
  go_wp2_with fail
  refine (big_any a len cap W).mono ?_
  rintro e wq ⟨rfl, hwq⟩
  rw [hwq]
  clear hwq wq
  cases hbig : decide ((1048576 : Int) < (len : Int)) with
  | true =>
    go_wp2
    go_ret
    exact ⟨rfl, Below.refl _ _⟩
  | false =>
    go_wp2_with fail
    refine (drawInserted_any W hU).mono ?_
    rintro e w1 ⟨v, A, author, z, sg, rfl, h8, hO1, hG, hB1⟩
    have hsg : sg.size ≤ 9223372036854775807 := by omega
    obtain ⟨va, vc, hv, hE1⟩ := hO1.evs
    subst hv
    have HB1 : Hid (Below W.heap.size W w1) := hB1
    have HE : Hid (∀ w', Below w1.heap.size w1 w' → IsEvs w' va A.length vc (gD A)) := fun w' hB => IsEvs.below hE1 hB
    have HG : Hid (Good A) := hG
    obtain ⟨ok, hok⟩ : ∃ ok, ok = okI (gD A) A.length author z sg := ⟨_, rfl⟩
    obtain ⟨x, hx⟩ : ∃ x, x = (if ok then opI (gD A) A.length author z sg else evZ) := ⟨_, rfl⟩
    obtain ⟨B, hB⟩ : ∃ B, B = (if ok then A ++ [opI (gD A) A.length author z sg] else []) := ⟨_, rfl⟩
    have HI : Hid (∀ w', Below w1.heap.size w1 w' → Calls Try.prog 14 #[.slice va A.length vc, .int .i64 author, .int .i64 z, .string sg] w' fun e w'' => ∃ v, e = .returned (.tuple #[v, .agg #[.int .i64 x.a, .int .i64 x.b, .int .i64 x.c, .string x.d], .bool ok]) ∧ OwnV w'' w'.heap.size v B ∧ Below w'.heap.size w' w'') := fun w' hB' => by
      have := implInserted_any va A.length vc (gD A) author z sg hsg w' (HE.out w' hB') HG.out.2
      rw [listD_gD] at this
      rw [hB, hx, hok]
      exact this
    have HS : Hid (∀ w', Below w1.heap.size w1 w' → Calls Try.prog 15 #[.slice va A.length vc, .int .i64 author, .int .i64 z, .string sg] w' fun e w'' => ∃ v, e = .returned (.tuple #[v, .agg #[.int .i64 x.a, .int .i64 x.b, .int .i64 x.c, .string x.d], .bool ok]) ∧ OwnV w'' w'.heap.size v B ∧ Below w'.heap.size w' w'') := fun w' hB' => by
      have := specInserted_any va A.length vc (gD A) author z sg hsg w' (HE.out w' hB') HG.out.2
      rw [listD_gD] at this
      rw [hB, hx, hok]
      exact this
    have HK : Hid (ok = okI (gD A) A.length author z sg ∧ x = (if ok then opI (gD A) A.length author z sg else evZ) ∧ B = (if ok then A ++ [opI (gD A) A.length author z sg] else [])) := ⟨hok, hx, hB⟩
    have hokn : (ok != ok) = false := by simp
    have hoke : (ok == ok) = true := by simp
    have hq := neqE x x
    have hqe := eqlE x x
    have hg := fun op y z => guardE op y z x x
    rw [Ev.same_refl] at hq hqe
    clear hO1 hG hB1 hE1 hok hx hB
    go_wp2_with fail
    refine (HI.out w1 (Below.refl _ _)).mono ?_
    rintro e w2 ⟨vm, rfl, hm2, hB2⟩
    obtain ⟨w3, hw3⟩ : ∃ w3, w3 = w2.alloc (.cells #[.int .i64 x.a, .int .i64 x.b, .int .i64 x.c, .string x.d] 28) := ⟨_, rfl⟩
    have hB23 : Below w2.heap.size w2 w3 := by rw [hw3]; exact (Below.refl _ _).alloc (Nat.le_refl _) _
    have HB3 : Hid (Below w1.heap.size w1 w3) := hB2.trans (hB23.mono hB2.size)
    have HM3 : Hid (OwnV w3 w1.heap.size vm B ∧ w3.heap[w2.heap.size]? = some (.cells #[.int .i64 x.a, .int .i64 x.b, .int .i64 x.c, .string x.d] 28 (0, 0))) := ⟨hm2.below hB23, by rw [hw3]; exact heap_alloc_new _ _⟩
    have HW3 := (show Hid _ from hw3)
    clear hm2 hB2 hB23 hw3
    go_wp2_with fail
    rw [← HW3.out]
    refine (HS.out w3 HB3.out).mono ?_
    rintro e w4 ⟨vs, rfl, hs4, hB4⟩
    obtain ⟨w5, hw5⟩ : ∃ w5, w5 = w4.alloc (.cells #[.int .i64 x.a, .int .i64 x.b, .int .i64 x.c, .string x.d] 28) := ⟨_, rfl⟩
    have hB45 : Below w4.heap.size w4 w5 := by rw [hw5]; exact (Below.refl _ _).alloc (Nat.le_refl _) _
    have hB35 : Below w3.heap.size w3 w5 := hB4.trans (hB45.mono hB4.size)
    have HB5 : Hid (Below w1.heap.size w1 w5) := HB3.out.trans (hB35.mono HB3.out.size)
    have m5 : OwnV w5 w1.heap.size vm B := HM3.out.1.below hB35
    have s5 : OwnV w5 w3.heap.size vs B := hs4.below hB45
    have c5 := (hB35.block _ (lt_of_block HM3.out.2)).trans HM3.out.2
    have d5 : w5.heap[w4.heap.size]? = some (.cells #[.int .i64 x.a, .int .i64 x.b, .int .i64 x.c, .string x.d] 28 (0, 0)) := by rw [hw5]; exact heap_alloc_new _ _
    have HM5 : Hid (OwnV w5 w1.heap.size vm B ∧ OwnV w5 w3.heap.size vs B) := ⟨m5, s5⟩
    have HC5 : Hid (w5.heap[w2.heap.size]? = some (.cells #[.int .i64 x.a, .int .i64 x.b, .int .i64 x.c, .string x.d] 28 (0, 0)) ∧ w5.heap[w4.heap.size]? = some (.cells #[.int .i64 x.a, .int .i64 x.b, .int .i64 x.c, .string x.d] 28 (0, 0))) := ⟨c5, d5⟩
    have e0 : w5.cell? ⟨w2.heap.size, 0, none⟩ = some (.int .i64 x.a) := cellN c5
    have e1 : w5.cell? ⟨w2.heap.size, 1, none⟩ = some (.int .i64 x.b) := cellN c5
    have e2 : w5.cell? ⟨w2.heap.size, 2, none⟩ = some (.int .i64 x.c) := cellN c5
    have e3 : w5.cell? ⟨w2.heap.size, 3, none⟩ = some (.string x.d) := cellN c5
    have f0 : w5.cell? ⟨w4.heap.size, 0, none⟩ = some (.int .i64 x.a) := cellN d5
    have f1 : w5.cell? ⟨w4.heap.size, 1, none⟩ = some (.int .i64 x.b) := cellN d5
    have f2 : w5.cell? ⟨w4.heap.size, 2, none⟩ = some (.int .i64 x.c) := cellN d5
    have f3 : w5.cell? ⟨w4.heap.size, 3, none⟩ = some (.string x.d) := cellN d5
    have c4 := (hB4.block _ (lt_of_block HM3.out.2)).trans HM3.out.2
    have hlt24 : w2.heap.size < w4.heap.size := lt_of_block c4
    have hne24 : w2.heap.size ≠ w4.heap.size := by omega
    have q0 : w4.cell? ⟨w2.heap.size, 0, none⟩ = some (.int .i64 x.a) := cellN c4
    have q1 : w4.cell? ⟨w2.heap.size, 1, none⟩ = some (.int .i64 x.b) := cellN c4
    have q2 : w4.cell? ⟨w2.heap.size, 2, none⟩ = some (.int .i64 x.c) := cellN c4
    have q3 : w4.cell? ⟨w2.heap.size, 3, none⟩ = some (.string x.d) := cellN c4
    have r0 : (w4.alloc (.cells #[.int .i64 x.a, .int .i64 x.b, .int .i64 x.c, .string x.d] 28)).cell? ⟨w2.heap.size, 0, none⟩ = some (.int .i64 x.a) := by rw [← hw5]; exact cellN c5
    have r1 : (w4.alloc (.cells #[.int .i64 x.a, .int .i64 x.b, .int .i64 x.c, .string x.d] 28)).cell? ⟨w2.heap.size, 1, none⟩ = some (.int .i64 x.b) := by rw [← hw5]; exact cellN c5
    have r2 : (w4.alloc (.cells #[.int .i64 x.a, .int .i64 x.b, .int .i64 x.c, .string x.d] 28)).cell? ⟨w2.heap.size, 2, none⟩ = some (.int .i64 x.c) := by rw [← hw5]; exact cellN c5
    have r3 : (w4.alloc (.cells #[.int .i64 x.a, .int .i64 x.b, .int .i64 x.c, .string x.d] 28)).cell? ⟨w2.heap.size, 3, none⟩ = some (.string x.d) := by rw [← hw5]; exact cellN c5
    have t0 : (w4.alloc (.cells #[.int .i64 x.a, .int .i64 x.b, .int .i64 x.c, .string x.d] 28)).cell? ⟨w4.heap.size, 0, none⟩ = some (.int .i64 x.a) := by rw [← hw5]; exact cellN d5
    have t1 : (w4.alloc (.cells #[.int .i64 x.a, .int .i64 x.b, .int .i64 x.c, .string x.d] 28)).cell? ⟨w4.heap.size, 1, none⟩ = some (.int .i64 x.b) := by rw [← hw5]; exact cellN d5
    have t2 : (w4.alloc (.cells #[.int .i64 x.a, .int .i64 x.b, .int .i64 x.c, .string x.d] 28)).cell? ⟨w4.heap.size, 2, none⟩ = some (.int .i64 x.c) := by rw [← hw5]; exact cellN d5
    have t3 : (w4.alloc (.cells #[.int .i64 x.a, .int .i64 x.b, .int .i64 x.c, .string x.d] 28)).cell? ⟨w4.heap.size, 3, none⟩ = some (.string x.d) := by rw [← hw5]; exact cellN d5
    have HW5 := (show Hid _ from hw5)
    clear c4
    clear hs4 hB4 hB45 hB35 m5 s5 c5 d5 hw5 HW3 HM3
    go_wp2_with fail
    rw [← HW5.out]
    refine (same_any _ _ _ _ _ w5 HM5.out.1 HM5.out.2).mono ?_
    rintro e w6 ⟨rfl, hB6⟩
    have HB6 : Hid (Below w1.heap.size w1 w6) := HB5.out.trans (hB6.mono HB5.out.size)
    have HM6 : Hid (OwnV w6 w1.heap.size vm B ∧ OwnV w6 w3.heap.size vs B) := ⟨HM5.out.1.below hB6, HM5.out.2.below hB6⟩
    have c6 := (hB6.block _ (lt_of_block HC5.out.1)).trans HC5.out.1
    have d6 := (hB6.block _ (lt_of_block HC5.out.2)).trans HC5.out.2
    have HC6 := (show Hid _ from c6)
    clear e0 e1 e2 e3 f0 f1 f2 f3 q0 q1 q2 q3 r0 r1 r2 r3 t0 t1 t2 t3 hlt24 hne24 HM5 HC5 hB6 HW5
    have e0 : w6.cell? ⟨w2.heap.size, 0, none⟩ = some (.int .i64 x.a) := cellN c6
    have e1 : w6.cell? ⟨w2.heap.size, 1, none⟩ = some (.int .i64 x.b) := cellN c6
    have e2 : w6.cell? ⟨w2.heap.size, 2, none⟩ = some (.int .i64 x.c) := cellN c6
    have e3 : w6.cell? ⟨w2.heap.size, 3, none⟩ = some (.string x.d) := cellN c6
    have f0 : w6.cell? ⟨w4.heap.size, 0, none⟩ = some (.int .i64 x.a) := cellN d6
    have f1 : w6.cell? ⟨w4.heap.size, 1, none⟩ = some (.int .i64 x.b) := cellN d6
    have f2 : w6.cell? ⟨w4.heap.size, 2, none⟩ = some (.int .i64 x.c) := cellN d6
    have f3 : w6.cell? ⟨w4.heap.size, 3, none⟩ = some (.string x.d) := cellN d6
    clear c6 d6
    cases ok with
    | false =>
      go_wp2_with fail
      refine (same_any _ _ _ _ _ w6 HM6.out.1 HM6.out.2).mono ?_
      rintro e w7 ⟨rfl, hB7⟩
      have HB7 : Hid (Below W.heap.size W w7) := HB1.out.trans ((HB6.out.trans (hB7.mono HB6.out.size)).mono HB1.out.size)
      clear hB7
      go_wp2
      go_ret
      exact ⟨rfl, HB7.out⟩
    | true =>
      have HP : Hid (x = opI (gD A) A.length author z sg ∧ B = A ++ [x] ∧ seqB (gD A) A.length = true ∧ inB 1 9 author = true ∧ seqB (snocD (gD A) A.length x) (A.length + 1) = true ∧ 0 ≤ z ∧ z ≤ (idsR (gD A) A.length).length) := by
        obtain ⟨k1, k2, k3⟩ := HK.out
        rw [if_pos rfl] at k2 k3
        rw [← k2] at k3
        have k4 := k1.symm
        unfold okI okW at k4
        rw [← k2] at k4
        simp only [Bool.and_eq_true] at k4
        have k5 := k4.1
        unfold inB at k5
        simp only [Bool.and_eq_true, decide_eq_true_eq] at k5
        exact ⟨k2, k3, k4.2.1.1, k4.2.1.2, k4.2.2, k5.1, by omega⟩
      obtain ⟨j, hj⟩ : ∃ j : Nat, z = (j : Int) := ⟨z.toNat, by have := HP.out.2.2.2.2.2.1; omega⟩
      subst hj
      clear HK
      go_wp2_with fail
      refine (implText_any va A.length vc (gD A) w6 (HE.out w6 HB6.out) HG.out.2).mono ?_
      rintro e w7 ⟨rfl, hB7⟩
      have HB7 : Hid (Below w1.heap.size w1 w7) := HB6.out.trans (hB7.mono HB6.out.size)
      obtain ⟨g, vd, hvm, hOE⟩ : ∃ g vd, vm = .slice (some ⟨g, 0, none⟩) B.length vd ∧ OwnE w7 w1.heap.size g vd B := by
        rcases (HM6.out.1.below hB7).cases with ⟨_, hB0⟩ | h
        · have := HP.out.2.1
          rw [hB0] at this
          simp at this
        · exact h
      have hEm : IsEvs w7 (some ⟨g, 0, none⟩) B.length vd (gD B) := hOE.evs
      clear hOE
      have c7 := (hB7.block _ (lt_of_block HC6.out)).trans HC6.out
      have p0 : ∀ s : Later w7, s.val.cell? ⟨w2.heap.size, 0, none⟩ = some (.int .i64 x.a) := fun s => s.cell (cellN c7)
      obtain ⟨t, ht⟩ : ∃ t, t = textR (gD A) A.length := ⟨_, rfl⟩
      have hts : t.size = (idsR (gD A) A.length).length := by rw [ht]; exact text_size HP.out.2.2.1
      have ht40 : t.size ≤ 40 := by rw [hts]; exact idsR_len _ _
      have hjt : j ≤ t.size := by have := HP.out.2.2.2.2.2.2; omega
      have eB : gD B = snocD (gD A) A.length x := funext fun i => by unfold snocD; rw [listD_gD, HP.out.2.1]; rfl
      have lB : B.length = A.length + 1 := by rw [HP.out.2.1]; simp
      have HTX : Hid (textR (gD B) B.length = t.extract 0 j ++ sg ++ t.extract j t.size) := by
        show _ = _
        rw [eB, lB, ht]
        have := text_ins (z := j) HP.out.2.2.1 HP.out.2.2.2.2.1 (by rw [HP.out.1]; rfl) (by have := HP.out.2.2.2.2.2.2; omega) (by rw [HP.out.1]; rfl)
        rw [show x.d = sg by rw [HP.out.1]; rfl] at this
        exact this
      have HSB : Hid (seqB (gD B) B.length = true) := by show _ = _; rw [eB, lB]; exact HP.out.2.2.2.2.1
      have HBin : Hid (∀ i, i < B.length → (gD B i).in) := by
        have hst : stI author (j : Int) sg A = some B := by
          have e1 : B = A ++ [opI (gD A) A.length author (j : Int) sg] := by rw [HP.out.2.1, HP.out.1]
          rw [e1]
          refine stI_ok ?_
          unfold okI okW
          rw [HP.out.2.2.1, HP.out.2.2.2.1, ← HP.out.1, HP.out.2.2.2.2.1, inB_yes (by omega) (by have := HP.out.2.2.2.2.2.2; omega)]
          rfl
        exact (stI_some hsg HG.out hst).1.2
      have hmod : x.a % 10 = author := by rw [HP.out.1]; exact (nid_mod HP.out.2.2.1 HP.out.2.2.2.1).1
      have hxr : 0 ≤ x.a ∧ x.a ≤ 2000000 := by rw [HP.out.1]; exact (nid_mod HP.out.2.2.1 HP.out.2.2.2.1).2
      have hmod2 : x.a.tmod 10 = author := by rw [Int.tmod_eq_emod_of_nonneg hxr.1]; exact hmod
      have haa : (author == author) = true := by simp
      obtain ⟨tm, htm⟩ : ∃ tm, tm = t.extract 0 j ++ sg ++ t.extract j t.size := ⟨_, rfl⟩
      have htt : ∀ q : ByteArray, (q.toList == q.toList) = true := fun q => by simp
      have HOK : Hid (∀ s : Later w7, Calls Try.prog 12 #[.slice (some ⟨g, 0, none⟩) B.length vd] s.val fun e w' => e = .returned (.bool true) ∧ Below s.val.heap.size s.val w') := fun s => by
        have := implSeq_any (some ⟨g, 0, none⟩) B.length vd (gD B) s.val (IsEvs.below hEm s.ok) HBin.out
        rw [HSB.out] at this
        exact this
      have HTT : Hid (∀ s : Later w7, Calls Try.prog 11 #[.slice (some ⟨g, 0, none⟩) B.length vd] s.val fun e w' => e = .returned (.string (t.extract 0 j ++ sg ++ t.extract j t.size)) ∧ Below s.val.heap.size s.val w') := fun s => by
        have := implText_any (some ⟨g, 0, none⟩) B.length vd (gD B) s.val (IsEvs.below hEm s.ok) HBin.out
        rw [HTX.out] at this
        exact this
      have hlB2 : A.length ≤ vd := by have := hEm.1; omega
      have hlB3 : A.length ≤ B.length := by omega
      have HEP : Hid (∀ s : Later w7, IsEvs s.val (some ⟨g, 0, none⟩) A.length vd (gD A)) := fun s => by
        obtain ⟨m1, m2, m3⟩ := IsEvs.below hEm s.ok
        refine ⟨by omega, m2, fun hp => ?_⟩
        obtain ⟨b, off, e, hb, hc⟩ := m3 (by omega)
        refine ⟨b, off, e, hb, fun i hi => ?_⟩
        have := hc i (by omega)
        rw [eB, snoc_at hi] at this
        exact this
      have HSM : Hid (∀ s : Later w7, Calls Try.prog 10 #[.slice (some ⟨g, 0, none⟩) A.length vd, .slice va A.length vc] s.val fun e w' => e = .returned (.bool true) ∧ Below s.val.heap.size s.val w') := fun s => same_evs _ _ _ _ _ (gD A) s.val (HEP.out s) (HE.out s.val (HB7.out.trans (s.ok.mono HB7.out.size)))
      have hne := Later.any w7
      rw [← ht]
      subst hvm
      have HB7W : Hid (Below W.heap.size W w7) := HB1.out.trans (HB7.out.mono HB1.out.size)
      clear e0 e1 e2 e3 f0 f1 f2 f3 hq hqe hg hB7 c7 ht hts htm tm hEm eB lB HM6 HC6
      go_wp2
      refine wp_region_later (by kernel_rfl) (by kernel_rfl) ?_
      repeat (go_big_quiet_step (first | (rename_i s; with_reducible exact Calls.later (HOK.out s)) | (rename_i s; with_reducible exact Calls.later (HTT.out s)) | (rename_i s; with_reducible exact Calls.later (HSM.out s))))
      refine wpQuiet_nil ?_
      rintro w8 ⟨s, hs8⟩
      have HB8 : Hid (Below W.heap.size W w8) := by rw [hs8]; exact HB7W.out.trans (s.ok.mono HB7W.out.size)
      clear hs8 s
      go_wp2
      go_ret
      exact ⟨rfl, HB8.out⟩

set_option maxRecDepth 100000 in
theorem sqins_lifted (os : Os) (started : os.Started) (H : Type) (enc : TypeId × Value → H) :
    ReturnsInHanded {} Try.checked os 4 .any (Rows.fnSeqInsertedSpec.pre6 enc Try.prog Try.f4 Rows.fnSeqInsertedRow.domain false) (Rows.fnSeqInsertedSpec.post enc Try.prog Try.f4 false true false false) := by
  refine returnsInHanded_of_change (C := Try.checked) own started (by kernel_rfl) Try.func4
    (ChangeSpec.witness6 (enc := enc) (C := Try.checked) false ⟨#[], #[.slice none 0 0], []⟩ 8 (by kernel_rfl) (by kernel_rfl) (by kernel_rfl) (by kernel_rfl)) ?_
  intro W base args ds gs before hval0 hW hcnd _
  have hval : ∀ (j : Nat) t v, Try.f4.params[j]? = some t → args[j]? = some v → Value.okWide Try.prog W .any base t v := hval0
  have hW' := hW
  obtain ⟨p, q, hA0, hV, rfl, hfz, hnd⟩ := hW
  have hA : DataW.TrodAll enc Try.prog W 0 (fun _ => true) true Try.f4.params.toList args.toList ds p := hA0
  rw [Try.params4] at hA hval
  obtain ⟨v0, vs0, d0, ds0, p0, q0, hargs, rfl, rfl, h0, r0⟩ := trodAll_cons hA
  obtain ⟨rfl, rfl, rfl⟩ := trodAll_nil r0
  obtain rfl : args = #[v0] := by cases args; simp_all
  obtain ⟨rfl, rfl⟩ := trodVars_none hV
  obtain ⟨a0, len0, cap0, rfl⟩ := okWide_slice Try.underlying22 (hval 0 22 v0 rfl rfl)
  have k0 := h0
  have lt0 : ∀ x ∈ p0, x.block < W.heap.size := by obtain ⟨m, hm⟩ := k0; exact DataW.trod_lt m _ _ _ hm
  obtain ⟨Z, w0⟩ : ∃ Z, IsU8 W a0 len0 cap0 Z := by
    obtain ⟨fuel, hf⟩ := h0
    obtain ⟨a, len, cap, Z, e, hI⟩ := open_u8 (by simpa [Value.cells] using hf)
    simp at e
    obtain ⟨rfl, rfl, rfl⟩ := e
    exact ⟨Z, hI⟩
  clear hA0 hval0
  refine (sqins_walk W w0).mono fun e W' ⟨he, bel⟩ => ?_
  subst he
  exact ⟨_, rfl, _, _, _, [], _, [], hW', trodAll_mk1 (shut_bool Try.underlying4 _), (trodAll_cons_mk (Below.trod laidOut (by kernel_rfl) (of_decide_eq_true (by kernel_rfl)) k0 bel lt0) trodAll_mk0), rfl, bel.frame _, fun h => by cases h⟩

theorem sqins_proved : Rows.FnSeqInsertedSaid :=
  OpenClaim.holds_of_wide 4 Try.f4 rfl rfl rfl rfl rfl rfl rfl ⟨rfl, rfl, rfl, rfl, rfl⟩ rfl rfl rfl rfl rfl (by kernel_rfl) Try.func4 (by kernel_rfl)
    (of_decide_eq_true (by kernel_rfl)) (by unfold Func.isWrapper; first | (rw [if_pos (by decide +kernel)]; kernel_rfl) | (rw [if_neg (by decide +kernel)]; exact ⟨rfl, rfl⟩))
    (fun os started H enc _ => sqins_lifted os started H enc)
#print axioms sqins_proved
end Go.Proofs.Ytpjeccnhgoegkaa
