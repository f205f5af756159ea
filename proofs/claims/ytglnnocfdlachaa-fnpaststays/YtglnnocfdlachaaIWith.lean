/-
  A chain with one event more: plain, and as the program answers it. No condition but that the slices read.
-/
import Derived.Test.YtglnnocfdlachaaICw
import Derived.Test.YtglnnocfdlachaaCMrgI
namespace Go.Proofs.Ytglnnocfdlachaa
open Go.RowKit
set_option linter.unusedVariables false

/-- the event is told for an epoch below the last one's -/
def lateB (A : List Ev) (x : Ev) : Bool := decide (0 < A.length) && decide (x.a < (A.getD (A.length - 1) evZ).a)
def admB (A : List Ev) (x : Ev) : Bool := hasI (resR (fun i => A.getD i evZ) A.length (x.a - 1)).2 x.b
/-- the chain takes it -/
def withB (A : List Ev) (x : Ev) : Bool := chainL A && (x.fine && (!lateB A x && (admB A x && chainL (putE A x))))
theorem ros_ok {A : List Ev} {x : Ev} (h1 : chainL A = true) (h2 : x.fine = true) : rosB (fun i => A.getD i evZ) A.length (x.a - 1) = true := by
  unfold rosB
  have h3 : chainB (fun i => A.getD i evZ) A.length = true := h1
  rw [h3]
  unfold Ev.fine inB at h2
  simp at h2
  unfold inB
  simp
  omega
theorem chainL_one {x : Ev} (h : x.fine = true) : chainL [x] = true := by
  unfold chainL chainB
  simp [allB, okAt, h]
theorem merge_one (A : List Ev) (x : Ev) : mergeE A [x] = putE A x := rfl
theorem own_one_ev {w : World} (x : Ev) : OwnE (w.alloc (.cells #[.int .i64 x.a, .int .i64 x.b, .int .i64 x.c, .int .i64 x.d] 30)) w.heap.size w.heap.size 1 [x] :=
  ⟨rfl, .inr ⟨w.heap.size, 1, _, rfl, Nat.le_refl _, heap_alloc_new _ _, Nat.le_refl _, by decide, rfl, rfl⟩⟩

set_option maxRecDepth 10000 in
set_option maxHeartbeats 4000000 in
theorem implWith_any (b1 o1 c1 : Nat) (A : List Ev) (x : Ev) (w : World) (h1 : Lies w b1 o1 A) (hb1 : b1 < w.heap.size) (hl1 : A.length ≤ c1) (hc1 : c1 ≤ 9223372036854775807) :
    Calls Try.prog 9 #[.slice (some ⟨b1, o1, none⟩) A.length c1, .agg #[.int .i64 x.a, .int .i64 x.b, .int .i64 x.c, .int .i64 x.d]] w fun r w' => ∃ v, r = .returned (.tuple #[v, .bool (withB A x)]) ∧ GaveV w' w.heap.size (withB A x) (putE A x) v ∧ Below w.heap.size w w' := by
  obtain ⟨X, hX⟩ : ∃ X, X = w.alloc (.cells #[.int .i64 x.a, .int .i64 x.b, .int .i64 x.c, .int .i64 x.d] 30) := ⟨_, rfl⟩
  have hBX : Below w.heap.size w X := by rw [hX]; exact (Below.refl _ _).alloc (Nat.le_refl _) _
  have gX : X.heap[w.heap.size]? = some (.cells #[.int .i64 x.a, .int .i64 x.b, .int .i64 x.c, .int .i64 x.d] 30 (0, 0)) := by rw [hX]; exact heap_alloc_new _ _
  have HL : Hid (∀ w', Below w.heap.size w w' → Lies w' b1 o1 A ∧ b1 < w'.heap.size) := fun w' hB => ⟨h1.grow hb1 hB, Nat.lt_of_lt_of_le hb1 hB.size⟩
  have HG : Hid (∀ w', Below X.heap.size X w' → w'.heap[w.heap.size]? = some (.cells #[.int .i64 x.a, .int .i64 x.b, .int .i64 x.c, .int .i64 x.d] 30 (0, 0)) ∧ Below w.heap.size w w') := fun w' hB => ⟨(hB.block _ (lt_of_block gX)).trans gX, hBX.trans (hB.mono hBX.size)⟩
  have HC : Hid (∀ w', Below w.heap.size w w' → ∀ y, chainL A = y → Calls Try.prog 18 #[.slice (some ⟨b1, o1, none⟩) A.length c1] w' fun e w'' => e = .returned (.bool y) ∧ Below w'.heap.size w' w'') := fun w' hB y hy => implChainL _ _ _ A w' (HL.out w' hB).1 (HL.out w' hB).2 hl1 hc1 y hy
  have HXE := (show Hid _ from hX)
  have HBX := (show Hid _ from hBX)
  clear h1 hb1 hX hBX gX
  cases hA : chainL A with
  | false =>
    have hr : Hid (withB A x = false) := by show _ = _; unfold withB; rw [hA]; rfl
    go_enter Try.func9, Try.ntmps9
    go_wp2_with fail
    rw [← HXE.out]
    refine (HC.out X HBX.out false hA).mono ?_
    rintro r w1 ⟨rfl, hB1⟩
    go_wp2
    go_ret2
    rw [hr.out]
    exact ⟨_, rfl, .inl ⟨rfl, rfl⟩, HBX.out.trans (hB1.mono HBX.out.size)⟩
  | true =>
  have hn30 : A.length ≤ 30 := chainL_len hA
  cases hF : x.fine with
  | false =>
    have hr : Hid (withB A x = false) := by show _ = _; unfold withB; rw [hA, hF]; rfl
    go_enter Try.func9, Try.ntmps9
    go_wp2_with fail
    rw [← HXE.out]
    refine (HC.out X HBX.out true hA).mono ?_
    rintro r w1 ⟨rfl, hB1⟩
    have gg := HG.out w1 hB1
    have e0 : w1.cell? ⟨w.heap.size, 0, none⟩ = some (.int .i64 x.a) := cellN gg.1
    have e1 : w1.cell? ⟨w.heap.size, 1, none⟩ = some (.int .i64 x.b) := cellN gg.1
    have e2 : w1.cell? ⟨w.heap.size, 2, none⟩ = some (.int .i64 x.c) := cellN gg.1
    have e3 : w1.cell? ⟨w.heap.size, 3, none⟩ = some (.int .i64 x.d) := cellN gg.1
    have HB1 := (show Hid _ from gg.2)
    clear gg hB1
    go_wp2_with fail
    refine (eventOk_any x false hF w1).mono ?_
    rintro r w2 ⟨rfl, hB2⟩
    have HB2 : Hid (Below w.heap.size w w2) := HB1.out.trans (hB2.mono HB1.out.size)
    clear hB2 e0 e1 e2 e3
    go_wp2
    go_ret2
    rw [hr.out]
    exact ⟨_, rfl, .inl ⟨rfl, rfl⟩, HB2.out⟩
  | true =>
  have hrok := ros_ok hA hF
  have HROK := (show Hid _ from hrok)
  have HHA := (show Hid _ from hA)
  have HHF := (show Hid _ from hF)
  have hfa : 1 ≤ x.a ∧ x.a ≤ 20 := by unfold Ev.fine inB at hF; simp at hF; omega
  clear hrok
  go_enter Try.func9, Try.ntmps9
  go_wp2_with fail
  rw [← HXE.out]
  refine (HC.out X HBX.out true hA).mono ?_
  rintro r w1 ⟨rfl, hB1⟩
  have gg := HG.out w1 hB1
  have e0 : w1.cell? ⟨w.heap.size, 0, none⟩ = some (.int .i64 x.a) := cellN gg.1
  have e1 : w1.cell? ⟨w.heap.size, 1, none⟩ = some (.int .i64 x.b) := cellN gg.1
  have e2 : w1.cell? ⟨w.heap.size, 2, none⟩ = some (.int .i64 x.c) := cellN gg.1
  have e3 : w1.cell? ⟨w.heap.size, 3, none⟩ = some (.int .i64 x.d) := cellN gg.1
  have HG1 := (show Hid _ from gg)
  have HB1 := (show Hid _ from hB1)
  clear gg hB1 hA hF
  go_wp2_with fail
  refine (eventOk_any x true HHF.out w1).mono ?_
  rintro r w2 ⟨rfl, hB2⟩
  have hb2 : Below w.heap.size w w2 := HG1.out.2.trans (hB2.mono HG1.out.2.size)
  have g2 := (hB2.block _ (lt_of_block HG1.out.1)).trans HG1.out.1
  have HG2 : Hid (w2.heap[w.heap.size]? = some (.cells #[.int .i64 x.a, .int .i64 x.b, .int .i64 x.c, .int .i64 x.d] 30 (0, 0)) ∧ Below w.heap.size w w2) := ⟨g2, hb2⟩
  clear e0 e1 e2 e3 hB2 g2 hb2 HG1 HB1
  have e0 : w2.cell? ⟨w.heap.size, 0, none⟩ = some (.int .i64 x.a) := cellN HG2.out.1
  have e1 : w2.cell? ⟨w.heap.size, 1, none⟩ = some (.int .i64 x.b) := cellN HG2.out.1
  have e2 : w2.cell? ⟨w.heap.size, 2, none⟩ = some (.int .i64 x.c) := cellN HG2.out.1
  have e3 : w2.cell? ⟨w.heap.size, 3, none⟩ = some (.int .i64 x.d) := cellN HG2.out.1
  obtain ⟨n, hn⟩ : ∃ n, n = A.length := ⟨_, rfl⟩
  have HNL : Hid (n = A.length) := hn
  cases hlate : lateB A x with
  | true =>
    have hr : Hid (withB A x = false) := by show _ = _; unfold withB; rw [HHA.out, HHF.out, hlate]; rfl
    obtain ⟨hl, hlt⟩ : 0 < n ∧ x.a < (A.getD (n - 1) evZ).a := by unfold lateB at hlate; rw [← hn] at hlate; simpa using hlate
    obtain ⟨j, hj⟩ : ∃ j, n = j + 1 := ⟨n - 1, by omega⟩
    have c0 := ((HL.out w2 HG2.out.2).1 j (by rw [← hn, hj]; omega)).1
    have hlt' : x.a < (A.getD j evZ).a := by rw [hj] at hlt; simpa using hlt
    obtain ⟨la, hla⟩ : ∃ la, la = (A.getD j evZ).a := ⟨_, rfl⟩
    rw [← hla] at c0 hlt'
    rw [← hn]
    have hg0 : decide ((0 : Int) < (n : Int)) = true := decide_eq_true (by omega)
    have hg0' : decide (0 < n) = true := decide_eq_true (by omega)
    have hw : IntKind.i64.wrap ((n : Int) - 1) = (j : Int) := by rw [IntKind.wrap_i64]; omega
    have hjn : (j : Int) < (n : Int) := by omega
    have hjn' : j < n := by omega
    have hd : decide (x.a < la) = true := decide_eq_true hlt'
    clear hla hlt hlate hn hl hj
    go_wp2
    go_quiet (fail)
    go_wp2
    go_ret2
    rw [hr.out]
    exact ⟨_, rfl, .inl ⟨rfl, rfl⟩, HG2.out.2.trans ⟨rfl, rfl, rfl, Nat.le_refl _, fun _ _ => rfl⟩⟩
  | false =>
    have hcase : n = 0 ∨ ∃ j la, n = j + 1 ∧ w2.cell? ⟨b1, o1 + j * 4, none⟩ = some (.int .i64 la) ∧ ¬ x.a < la := by
      by_cases h0 : n = 0
      · exact .inl h0
      · refine .inr ⟨n - 1, (A.getD (n - 1) evZ).a, by omega, ((HL.out w2 HG2.out.2).1 (n - 1) (by rw [← hn]; omega)).1, ?_⟩
        unfold lateB at hlate
        rw [← hn] at hlate
        have : decide (0 < n) = true := decide_eq_true (by omega)
        rw [this] at hlate
        simpa using hlate
    have hwx : IntKind.i64.wrap (x.a - 1) = x.a - 1 := by rw [IntKind.wrap_i64]; omega
    obtain ⟨R1, hR1⟩ : ∃ R1, R1 = (resR (fun i => A.getD i evZ) A.length (x.a - 1)).1 := ⟨_, rfl⟩
    obtain ⟨R2, hR2⟩ : ∃ R2, R2 = (resR (fun i => A.getD i evZ) A.length (x.a - 1)).2 := ⟨_, rfl⟩
    have HADM : Hid (hasI R2 x.b = admB A x) := by show _ = _; rw [hR2]; rfl
    have HW3 : Hid (∀ w3, Below w2.heap.size w2 w3 → w3.heap[w.heap.size]? = some (.cells #[.int .i64 x.a, .int .i64 x.b, .int .i64 x.c, .int .i64 x.d] 30 (0, 0)) ∧ Below w.heap.size w w3 ∧ Calls Try.prog 16 #[.slice (some ⟨b1, o1, none⟩) n c1, .int .i64 (x.a - 1)] w3 fun r w'' => ∃ a1 c1 a2 c2 z, r = .returned (.tuple #[.agg #[.slice a1 R1.length c1, .slice a2 R2.length c2], .bool true]) ∧ OwnI w'' w3.heap.size (.slice a1 R1.length c1) R1 ∧ OwnI w'' z (.slice a2 R2.length c2) R2 ∧ w3.heap.size ≤ z ∧ (∀ k, (Value.slice a1 R1.length c1).ownBlock = some k → k < z) ∧ Below w3.heap.size w3 w'') := fun w3 hB => by
      have hb : Below w.heap.size w w3 := HG2.out.2.trans (hB.mono HG2.out.2.size)
      refine ⟨(hB.block _ (lt_of_block HG2.out.1)).trans HG2.out.1, hb, ?_⟩
      have := implR (some ⟨b1, o1, none⟩) A.length c1 (fun i => A.getD i evZ) (x.a - 1) w3 ((HL.out w3 hb).1.evs (HL.out w3 hb).2 hl1 hc1)
      rw [HROK.out, ← hR1, ← hR2] at this
      rw [hn]
      exact this
    have HMG : Hid (∀ w5 g, Below w.heap.size w w5 → OwnE w5 g g 1 [x] → Calls Try.prog 26 #[.slice (some ⟨b1, o1, none⟩) n c1, .slice (some ⟨g, 0, none⟩) 1 1] w5 fun e w' => ∃ v, e = .returned (.tuple #[v, .bool (mergedB A [x])]) ∧ GaveV w' w5.heap.size (mergedB A [x]) (putE A x) v ∧ Below w5.heap.size w5 w') := fun w5 g hB ho => by
      rw [hn]
      exact implMerged_any b1 o1 c1 g 0 1 A [x] w5 (HL.out w5 hB).1 (HL.out w5 hB).2 hl1 hc1 ho.lies.1 ho.lies.2.1 (by simp) (by omega)
    have HLATE : Hid (lateB A x = false) := hlate
    have hn30' : n ≤ 30 := by rw [hn]; exact hn30
    rw [← hn]
    clear hn hlate hR1 hR2 hl1 hn30
    rcases hcase with hn0 | ⟨j, la, hj, c0, hge⟩
    · have hg0 : decide ((0 : Int) < (n : Int)) = false := decide_eq_false (by omega)
      have hg0' : decide (0 < n) = false := decide_eq_false (by omega)
      clear hn0
      go_wp2
      go_quiet (fail)
      obtain ⟨w3, hw3⟩ : ∃ w3, w3 = w2.drewN nq := ⟨_, rfl⟩
      have hb23 : Below w2.heap.size w2 w3 := by rw [hw3]; exact ⟨rfl, rfl, rfl, Nat.le_refl _, fun _ _ => rfl⟩
      rw [← hw3]
      have H3 := (show Hid _ from HW3.out w3 hb23)
      clear hw3 hb23 e0 e1 e2 e3 HG2
      have e0 : w3.cell? ⟨w.heap.size, 0, none⟩ = some (.int .i64 x.a) := cellN H3.out.1
      go_wp2_with fail
      refine H3.out.2.2.mono ?_
      rintro r w4 ⟨a1, c1', a2, c2, z, rfl, o1', o2', hz, _, hB4⟩
      have g4 := (hB4.block _ (lt_of_block H3.out.1)).trans H3.out.1
      have b4 : Below w.heap.size w w4 := H3.out.2.1.trans (hB4.mono H3.out.2.1.size)
      obtain ⟨x4, hx4⟩ : ∃ x4, x4 = w4.alloc (.cells #[.slice a1 R1.length c1', .slice a2 R2.length c2] 41) := ⟨_, rfl⟩
      have hb4 : Below w4.heap.size w4 x4 := by rw [hx4]; exact (Below.refl _ _).alloc (Nat.le_refl _) _
      have p4 : x4.heap[w4.heap.size]? = some (.cells #[.slice a1 R1.length c1', .slice a2 R2.length c2] 41 (0, 0)) := by rw [hx4]; exact heap_alloc_new _ _
      have H4 : Hid (x4.heap[w.heap.size]? = some (.cells #[.int .i64 x.a, .int .i64 x.b, .int .i64 x.c, .int .i64 x.d] 30 (0, 0)) ∧ Below w.heap.size w x4 ∧ RdI x4 (.slice a2 R2.length c2) R2 ∧ x4.heap[w4.heap.size]? = some (.cells #[.slice a1 R1.length c1', .slice a2 R2.length c2] 41 (0, 0))) := ⟨(hb4.block _ (lt_of_block g4)).trans g4, b4.trans (hb4.mono b4.size), (o2'.below hb4).rd, p4⟩
      have HX4 := (show Hid _ from hx4)
      have g4x := (hb4.block _ (lt_of_block g4)).trans g4
      rw [hx4] at g4x
      have f1 : (w4.alloc (.cells #[.slice a1 R1.length c1', .slice a2 R2.length c2] 41)).cell? ⟨w.heap.size, 1, none⟩ = some (.int .i64 x.b) := cellN g4x
      clear hx4 hb4 p4 g4 g4x b4 o1' o2' hB4 e0 hz H3
      go_wp2_with fail
      rw [← HX4.out]
      clear f1 HX4
      refine (contains_any _ R2 x.b x4 H4.out.2.2.1).mono ?_
      rintro r w5 ⟨rfl, hB5⟩
      rw [HADM.out]
      have b5 : Below w.heap.size w w5 := H4.out.2.1.trans (hB5.mono H4.out.2.1.size)
      have g5 := (hB5.block _ (lt_of_block H4.out.1)).trans H4.out.1
      have H5 : Hid (Below w.heap.size w w5) := b5
      have d0 : w5.cell? ⟨w.heap.size, 0, none⟩ = some (.int .i64 x.a) := cellN g5
      have d1 : w5.cell? ⟨w.heap.size, 1, none⟩ = some (.int .i64 x.b) := cellN g5
      have d2 : w5.cell? ⟨w.heap.size, 2, none⟩ = some (.int .i64 x.c) := cellN g5
      have d3 : w5.cell? ⟨w.heap.size, 3, none⟩ = some (.int .i64 x.d) := cellN g5
      clear hB5 b5 g5 H4
      cases hadm : admB A x with
      | false =>
        have hr : Hid (withB A x = false) := by show _ = _; unfold withB; rw [HHA.out, HHF.out, HLATE.out, hadm]; rfl
        clear d0 d1 d2 d3
        go_wp2
        go_ret2
        rw [hr.out]
        exact ⟨_, rfl, .inl ⟨rfl, rfl⟩, H5.out⟩
      | true =>
        have hr : Hid (withB A x = mergedB A [x]) := by show _ = _; unfold withB mergedB; rw [HHA.out, HHF.out, HLATE.out, hadm, chainL_one HHF.out, merge_one]; rfl
        have HB6 : Hid (Below w.heap.size w (w5.alloc (.cells #[.int .i64 x.a, .int .i64 x.b, .int .i64 x.c, .int .i64 x.d] 30))) := H5.out.alloc H5.out.size _
        clear hadm
        go_wp2_with fail
        refine (HMG.out _ w5.heap.size HB6.out (own_one_ev x)).mono ?_
        rintro r w6 ⟨v, rfl, hv, hB7⟩
        have HV : Hid (GaveV w6 w.heap.size (mergedB A [x]) (putE A x) v ∧ Below w.heap.size w w6) := ⟨hv.imp (fun h => h) (fun h => ⟨h.1, World.ownsRow.mono h.2 HB6.out.size⟩), HB6.out.trans (hB7.mono HB6.out.size)⟩
        clear hv hB7 d0 d1 d2 d3
        generalize mergedB A [x] = ok at HV hr ⊢
        go_wp2
        go_ret2
        rw [hr.out]
        exact ⟨_, rfl, HV.out.1, HV.out.2⟩
    · have hg0 : decide ((0 : Int) < (n : Int)) = true := decide_eq_true (by omega)
      have hg0' : decide (0 < n) = true := decide_eq_true (by omega)
      have hw : IntKind.i64.wrap ((n : Int) - 1) = (j : Int) := by rw [IntKind.wrap_i64]; omega
      have hjn : (j : Int) < (n : Int) := by omega
      have hjn' : j < n := by omega
      have hd : decide (x.a < la) = false := decide_eq_false hge
      clear hj hge
      go_wp2
      go_quiet (fail)
      obtain ⟨w3, hw3⟩ : ∃ w3, w3 = w2.drewN nq := ⟨_, rfl⟩
      have hb23 : Below w2.heap.size w2 w3 := by rw [hw3]; exact ⟨rfl, rfl, rfl, Nat.le_refl _, fun _ _ => rfl⟩
      rw [← hw3]
      have H3 := (show Hid _ from HW3.out w3 hb23)
      clear hw3 hb23 e0 e1 e2 e3 HG2
      have e0 : w3.cell? ⟨w.heap.size, 0, none⟩ = some (.int .i64 x.a) := cellN H3.out.1
      go_wp2_with fail
      refine H3.out.2.2.mono ?_
      rintro r w4 ⟨a1, c1', a2, c2, z, rfl, o1', o2', hz, _, hB4⟩
      have g4 := (hB4.block _ (lt_of_block H3.out.1)).trans H3.out.1
      have b4 : Below w.heap.size w w4 := H3.out.2.1.trans (hB4.mono H3.out.2.1.size)
      obtain ⟨x4, hx4⟩ : ∃ x4, x4 = w4.alloc (.cells #[.slice a1 R1.length c1', .slice a2 R2.length c2] 41) := ⟨_, rfl⟩
      have hb4 : Below w4.heap.size w4 x4 := by rw [hx4]; exact (Below.refl _ _).alloc (Nat.le_refl _) _
      have p4 : x4.heap[w4.heap.size]? = some (.cells #[.slice a1 R1.length c1', .slice a2 R2.length c2] 41 (0, 0)) := by rw [hx4]; exact heap_alloc_new _ _
      have H4 : Hid (x4.heap[w.heap.size]? = some (.cells #[.int .i64 x.a, .int .i64 x.b, .int .i64 x.c, .int .i64 x.d] 30 (0, 0)) ∧ Below w.heap.size w x4 ∧ RdI x4 (.slice a2 R2.length c2) R2 ∧ x4.heap[w4.heap.size]? = some (.cells #[.slice a1 R1.length c1', .slice a2 R2.length c2] 41 (0, 0))) := ⟨(hb4.block _ (lt_of_block g4)).trans g4, b4.trans (hb4.mono b4.size), (o2'.below hb4).rd, p4⟩
      have HX4 := (show Hid _ from hx4)
      have g4x := (hb4.block _ (lt_of_block g4)).trans g4
      rw [hx4] at g4x
      have f1 : (w4.alloc (.cells #[.slice a1 R1.length c1', .slice a2 R2.length c2] 41)).cell? ⟨w.heap.size, 1, none⟩ = some (.int .i64 x.b) := cellN g4x
      clear hx4 hb4 p4 g4 g4x b4 o1' o2' hB4 e0 hz H3
      go_wp2_with fail
      rw [← HX4.out]
      clear f1 HX4
      refine (contains_any _ R2 x.b x4 H4.out.2.2.1).mono ?_
      rintro r w5 ⟨rfl, hB5⟩
      rw [HADM.out]
      have b5 : Below w.heap.size w w5 := H4.out.2.1.trans (hB5.mono H4.out.2.1.size)
      have g5 := (hB5.block _ (lt_of_block H4.out.1)).trans H4.out.1
      have H5 : Hid (Below w.heap.size w w5) := b5
      have d0 : w5.cell? ⟨w.heap.size, 0, none⟩ = some (.int .i64 x.a) := cellN g5
      have d1 : w5.cell? ⟨w.heap.size, 1, none⟩ = some (.int .i64 x.b) := cellN g5
      have d2 : w5.cell? ⟨w.heap.size, 2, none⟩ = some (.int .i64 x.c) := cellN g5
      have d3 : w5.cell? ⟨w.heap.size, 3, none⟩ = some (.int .i64 x.d) := cellN g5
      clear hB5 b5 g5 H4
      cases hadm : admB A x with
      | false =>
        have hr : Hid (withB A x = false) := by show _ = _; unfold withB; rw [HHA.out, HHF.out, HLATE.out, hadm]; rfl
        clear d0 d1 d2 d3
        go_wp2
        go_ret2
        rw [hr.out]
        exact ⟨_, rfl, .inl ⟨rfl, rfl⟩, H5.out⟩
      | true =>
        have hr : Hid (withB A x = mergedB A [x]) := by show _ = _; unfold withB mergedB; rw [HHA.out, HHF.out, HLATE.out, hadm, chainL_one HHF.out, merge_one]; rfl
        have HB6 : Hid (Below w.heap.size w (w5.alloc (.cells #[.int .i64 x.a, .int .i64 x.b, .int .i64 x.c, .int .i64 x.d] 30))) := H5.out.alloc H5.out.size _
        clear hadm
        go_wp2_with fail
        refine (HMG.out _ w5.heap.size HB6.out (own_one_ev x)).mono ?_
        rintro r w6 ⟨v, rfl, hv, hB7⟩
        have HV : Hid (GaveV w6 w.heap.size (mergedB A [x]) (putE A x) v ∧ Below w.heap.size w w6) := ⟨hv.imp (fun h => h) (fun h => ⟨h.1, World.ownsRow.mono h.2 HB6.out.size⟩), HB6.out.trans (hB7.mono HB6.out.size)⟩
        clear hv hB7 d0 d1 d2 d3
        generalize mergedB A [x] = ok at HV hr ⊢
        go_wp2
        go_ret2
        rw [hr.out]
        exact ⟨_, rfl, HV.out.1, HV.out.2⟩
end Go.Proofs.Ytglnnocfdlachaa
