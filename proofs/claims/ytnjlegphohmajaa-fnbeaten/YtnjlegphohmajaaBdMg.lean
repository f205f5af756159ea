/-
  The statement FnBeatsMergedSaid: at every code the law returns true, and the code reads afterwards as it read before. No condition.
-/
import Derived.Test.YtnjlegphohmajaaBdMP
import Derived.Test.YtnjlegphohmajaaOpenU4
namespace Go.Proofs.Ytnjlegphohmajaa
open Go.ChangeShapes Go.WideShapes Go.ChangeAt Go.RowKit Go.Deep
set_option linter.unusedVariables false

theorem IsU8.below {w w' : World} {a : Option Addr} {len cap : Nat} {Z : Nat → Int} (h : IsU8 w a len cap Z) (hB : Below w.heap.size w w') : IsU8 w' a len cap Z := by
  obtain ⟨h1, h2, h3, h4⟩ := h
  refine ⟨h1, h2, h3, fun hp => ?_⟩
  obtain ⟨b, off, e, hb, hc⟩ := h4 hp
  exact ⟨b, off, e, Nat.lt_of_lt_of_le hb hB.size, fun i hi => (hB.cell (p := ⟨b, off + i, none⟩) hb).trans (hc i hi)⟩
theorem in_of {L : List Ev} (h : ∀ x ∈ L, x.in) : ∀ i, i < L.length → (L.getD i evZ).in := fun i hi => by rw [getD_get hi]; exact h _ (List.getElem_mem _)
theorem implM_any (v v' : Value) (A B : List Ev) (w : World) (h : RdV w v A) (h' : RdV w v' B) (hA : ∀ x ∈ A, x.in) (hB : ∀ x ∈ B, x.in) :
    Calls Try.prog 17 #[v, v'] w fun e w' => ∃ u, e = .returned u ∧ OwnV w' w.heap.size u (mgRA A B) ∧ Below w.heap.size w w' := by
  obtain ⟨a1, c1, rfl, h1⟩ := h
  obtain ⟨a2, c2, rfl, h2⟩ := h'
  exact implMerged_any _ _ _ _ _ _ _ _ w h1 h2 (in_of hA) (in_of hB)
theorem specM_any (v v' : Value) (A B : List Ev) (w : World) (h : RdV w v A) (h' : RdV w v' B) (hA : ∀ x ∈ A, x.in) (hB : ∀ x ∈ B, x.in) :
    Calls Try.prog 18 #[v, v'] w fun e w' => ∃ u, e = .returned u ∧ OwnV w' w.heap.size u (mgRA A B) ∧ Below w.heap.size w w' := by
  obtain ⟨a1, c1, rfl, h1⟩ := h
  obtain ⟨a2, c2, rfl, h2⟩ := h'
  exact specMerged_any _ _ _ _ _ _ _ _ w h1 h2 (in_of hA) (in_of hB)
theorem specB_any (v : Value) (A : List Ev) (w : World) (h : RdV w v A) (hA : ∀ x ∈ A, x.in) :
    Calls Try.prog 14 #[v] w fun e w' => e = .returned (.bool (beatsL A)) ∧ Below w.heap.size w w' := by
  obtain ⟨a1, c1, rfl, h1⟩ := h
  exact specBeats_any _ _ _ _ w h1 (in_of hA)

section
variable {W : World} {a : Option Addr} {len cap : Nat} {Z : Nat → Int}

set_option maxRecDepth 10000 in
set_option maxHeartbeats 2000000 in
theorem drawOk_any (hU : IsU8 W a len cap Z) :
    Calls Try.prog 16 #[.slice a len cap] W fun e w' => ∃ v A, e = .returned v ∧ (∀ x ∈ A, 1 ≤ x.a ∧ x.a ≤ 5 ∧ x.in) ∧ OwnV w' W.heap.size v A ∧ Below W.heap.size W w' := by
  obtain ⟨i0, hi, hz0, hz1, hz2⟩ := info_parts infoE
  go_enter Try.func16, Try.ntmps16
  go_wp2_with fail
  refine (open_any _ _ _ _).mono ?_
  rintro e w1 ⟨rfl, hD1⟩
  go_wp2_with fail
  refine (beats_any 10 (by omega) (by omega) hU w1 hD1).mono ?_
  rintro e w2 ⟨g, c, L, rfl, hL, hO, hD2, hM2⟩
  have hg1 : g ≠ W.heap.size := by have := hO.lies.2.2; have := hD1.lt; omega
  have hs1 := hD1.bel.size
  go_wp2_with fail
  refine (once_any hU 8 (by omega) (by omega) w2 hD2).mono ?_
  rintro e w3 ⟨x, rfl, hD3, hM3⟩
  have HO3 : Hid (OwnE w3 W.heap.size g c L) := (hO.base hs1).mut hM3 hg1
  have HB3 : Hid (Below W.heap.size W w3) := hD3.bel
  have HL : Hid (UpB L ∧ ∀ x ∈ L, 1 ≤ x.a ∧ x.a ≤ 5 ∧ x.in) := hL
  have hl5 : L.length ≤ 5 := few5 hL.1 hL.2
  clear hO hM3 hD2 hM2 hD1 hD3 hL
  cases x with
  | false =>
    go_wp2
    go_ret
    exact ⟨_, L, rfl, HL.out.2, HO3.out.v, HB3.out⟩
  | true =>
    obtain ⟨n, hn⟩ : ∃ n, n = L.length := ⟨_, rfl⟩
    have HN : Hid (n = L.length) := hn
    rw [← hn] at hl5 ⊢
    by_cases h0 : n = 0
    · have hLd : decide ((0 : Int) < (n : Int)) = false := decide_eq_false (by omega)
      have hLn : ¬ (0 < n) := by omega
      have hLe : decide (0 < n) = false := decide_eq_false (by omega)
      clear h0 hn
      go_wp2
      go_ret
      exact ⟨_, L, rfl, HL.out.2, by have := HO3.out.v; rw [← HN.out] at this; exact this, HB3.out⟩
    · have hn0 : (0 : Int) < (n : Int) := by omega
      have hn1 : 0 < n := by omega
      have hcap : n ≤ c ∧ c ≤ 9223372036854775807 := by rw [hn]; exact HO3.out.caps
      obtain ⟨hc1, hc2⟩ := hcap
      have m0 := HO3.out.lies.1 0 (by omega)
      rw [Nat.zero_add, Nat.zero_mul] at m0
      have hmem : L.getD 0 evZ ∈ L := by rw [getD_get (by omega)]; exact List.getElem_mem _
      obtain ⟨y, hy⟩ : ∃ y, y = L.getD 0 evZ := ⟨_, rfl⟩
      rw [← hy] at m0 hmem
      have HY : Hid (y ∈ L) := hmem
      obtain ⟨c0, c1, c2, c3⟩ := m0
      have HO' : Hid (w3.ownsRow W.heap.size 32 4 (.slice (some ⟨g, 0, none⟩) n c) n (cellsL L)) := own_form2 HO3.out hn.symm
      have HQ : Hid (n + 1 ≤ maxLen ∧ (n + 1) * 40 ≤ 140737488355328) := ⟨by unfold maxLen; omega, by omega⟩
      have HBW : Hid (Below W.heap.size W (w3.alloc (.cells #[.int .i64 y.a, .int .i64 y.b, .int .i64 y.c, .string y.d] 32))) := HB3.out.alloc HB3.out.size _
      have HZ : Hid (W.heap.size ≤ (w3.alloc (.cells #[.int .i64 y.a, .int .i64 y.b, .int .i64 y.c, .string y.d] 32)).heap.size) := HBW.out.size
      have HNw : Hid (∀ j u, (enc4 y)[j]? = some u → (w3.alloc (.cells #[.int .i64 y.a, .int .i64 y.b, .int .i64 y.c, .string y.d] 32)).cell? ((⟨w3.heap.size, 0, none⟩ : Addr).add j) = some u) := by
        show ∀ j u, _
        have := World.news_of_block (heap_alloc_new w3 (.cells #[.int .i64 y.a, .int .i64 y.b, .int .i64 y.c, .string y.d] 32))
        simpa [enc4] using this
      clear hy hn h0 hmem
      go_wp2_with (at_builtin; refine wpList_append_own _ rfl _ _ 24 rfl W.heap.size 32 i0 (.agg #[.int .i64 0, .int .i64 0, .int .i64 0, .string ⟨#[]⟩]) 4 40 Try.underlying24 hi hz0 hz1 hz2 rfl (by decide) _ n _ rfl (HO'.out.alloc _) ⟨w3.heap.size, 0, none⟩ 1 1 (enc4 y) rfl rfl HNw.out (by rw [← cellsL_one]; exact oneL _) HQ.out.1 HQ.out.2 HZ.out ?_; intro v5 w5 hown5 hgrow5 hnil5)
      have HF : Hid (OwnV w5 W.heap.size v5 (L ++ [y]) ∧ Below W.heap.size W w5) := by
        refine ⟨?_, HBW.out.grown hgrow5 HBW.out.size (fun x hx => (HO'.out.lt x hx).1)⟩
        unfold OwnV
        rw [List.length_append, ← HN.out, cellsL_append, cellsL_one]
        exact hown5
      clear hown5 hgrow5 hnil5
      go_wp2
      go_ret
      refine ⟨_, L ++ [y], rfl, fun x hx => ?_, HF.out.1, HF.out.2⟩
      rcases List.mem_append.1 hx with hx | hx
      · exact HL.out.2 x hx
      · rw [List.mem_singleton.1 hx]; exact HL.out.2 y HY.out
end

set_option maxRecDepth 10000 in
set_option maxHeartbeats 8000000 in
theorem bmerged_walk {a : Option Addr} {len cap : Nat} {Z : Nat → Int} (W : World) (hU : IsU8 W a len cap Z) :
    Calls Try.prog 4 #[.slice a len cap] W fun e w' => e = .returned (.bool true) ∧ Below W.heap.size W w' := by
  go_enter Try.func4, Try.ntmps4
  go_wp2_with fail
  refine (big_any _ _ _ _).mono ?_
  rintro e w0 ⟨rfl, rfl⟩
  by_cases hbg : (1048576 : Int) < (len : Int)
  · go_wp2
    go_ret
    exact ⟨rfl, Below.refl _ _⟩
  have hbd : decide ((1048576 : Int) < (len : Int)) = false := by simpa using hbg
  clear hbg
  go_wp2_with fail
  refine (drawMerged_any hU).mono ?_
  rintro e w1 ⟨g1, c1, A, g2, c2, B, rfl, hA, hB, hO1, hO2, hB1⟩
  go_wp2_with fail
  refine (drawOk_any (hU.below hB1)).mono ?_
  rintro e w2 ⟨vc, C, rfl, hC, hO3, hB2⟩
  have RA : Hid (∀ w', Below w2.heap.size w2 w' → RdV w' (.slice (some ⟨g1, 0, none⟩) A.length c1) A) := fun w' h => ((hO1.below hB2).below h).rd
  have RB : Hid (∀ w', Below w2.heap.size w2 w' → RdV w' (.slice (some ⟨g2, 0, none⟩) B.length c2) B) := fun w' h => ((hO2.below hB2).below h).rd
  have RC : Hid (∀ w', Below w2.heap.size w2 w' → RdV w' vc C) := fun w' h => (hO3.below h).rd
  have HB2 : Hid (Below w0.heap.size w0 w2) := hB1.trans (hB2.mono hB1.size)
  have HA : Hid (Drawn A) := hA
  have HBd : Hid (Drawn B) := hB
  have HC : Hid (∀ x ∈ C, 1 ≤ x.a ∧ x.a ≤ 5 ∧ x.in) := hC
  have IA : Hid (∀ x ∈ A, x.in) := fun x hx => (hA.2 x hx).2.2
  have IB : Hid (∀ x ∈ B, x.in) := fun x hx => (hB.2 x hx).2.2
  have IC : Hid (∀ x ∈ C, x.in) := fun x hx => (hC x hx).2.2
  generalize hva : Value.slice (some ⟨g1, 0, none⟩) A.length c1 = va at RA ⊢
  generalize hvb : Value.slice (some ⟨g2, 0, none⟩) B.length c2 = vb at RB ⊢
  clear hO1 hO2 hO3 hB1 hB2 hA hB hC hva hvb
  go_wp2_with fail
  refine (implM_any va vb A B w2 (RA.out _ (Below.refl _ _)) (RB.out _ (Below.refl _ _)) IA.out IB.out).mono ?_
  rintro e X ⟨vm, rfl, hM, hX⟩
  have HX : Hid (Below w2.heap.size w2 X) := hX
  have RM : Hid (∀ w', Below X.heap.size X w' → RdV w' vm (mgRA A B)) := fun w' h => (hM.below h).rd
  clear hM hX
  go_wp2_with fail
  refine (specM_any va vb A B X (RA.out _ HX.out) (RB.out _ HX.out) IA.out IB.out).mono ?_
  rintro e x1 ⟨u1, rfl, r1, q1⟩
  have HX1 : Hid (Below X.heap.size X x1) := q1
  go_wp2_with fail
  refine (same_any _ _ _ _ (RM.out _ HX1.out) r1.rd).mono ?_
  rintro e x2 ⟨rfl, q2⟩
  have HX2 : Hid (Below X.heap.size X x2) := HX1.out.trans (q2.mono HX1.out.size)
  clear q1 q2 r1 HX1
  go_wp2_with fail
  refine (specB_any va A _ (RA.out _ (HX.out.trans (HX2.out.mono HX.out.size))) IA.out).mono ?_
  rintro e x3 ⟨rfl, q⟩
  have HX3 : Hid (Below X.heap.size X x3) := HX2.out.trans (q.mono HX2.out.size)
  clear q
  cases hbA : beatsL A with
  | false =>
    go_wp2_with fail
    refine (specM_any va vb A B _ (RA.out _ (HX.out.trans (HX3.out.mono HX.out.size))) (RB.out _ (HX.out.trans (HX3.out.mono HX.out.size))) IA.out IB.out).mono ?_
    rintro e y1 ⟨u1, rfl, r1, q1⟩
    have HY1 : Hid (Below X.heap.size X y1) := HX3.out.trans (q1.mono HX3.out.size)
    go_wp2_with fail
    refine (same_any _ _ _ _ (RM.out _ HY1.out) r1.rd).mono ?_
    rintro e y2 ⟨rfl, q2⟩
    have HY2 : Hid (Below X.heap.size X y2) := HY1.out.trans (q2.mono HY1.out.size)
    clear q1 q2 r1
    go_wp2
    go_ret
    exact ⟨rfl, (HB2.out.trans (HX.out.mono HB2.out.size)).trans (HY2.out.mono (HB2.out.trans (HX.out.mono HB2.out.size)).size)⟩
  | true =>
    go_wp2_with fail
    refine (specB_any vb B _ (RB.out _ (HX.out.trans (HX3.out.mono HX.out.size))) IB.out).mono ?_
    rintro e x4 ⟨rfl, q⟩
    have HX4 : Hid (Below X.heap.size X x4) := HX3.out.trans (q.mono HX3.out.size)
    clear q
    cases hbB : beatsL B with
    | false =>
      go_wp2_with fail
      refine (specM_any va vb A B _ (RA.out _ (HX.out.trans (HX4.out.mono HX.out.size))) (RB.out _ (HX.out.trans (HX4.out.mono HX.out.size))) IA.out IB.out).mono ?_
      rintro e y1 ⟨u1, rfl, r1, q1⟩
      have HY1 : Hid (Below X.heap.size X y1) := HX4.out.trans (q1.mono HX4.out.size)
      go_wp2_with fail
      refine (same_any _ _ _ _ (RM.out _ HY1.out) r1.rd).mono ?_
      rintro e y2 ⟨rfl, q2⟩
      have HY2 : Hid (Below X.heap.size X y2) := HY1.out.trans (q2.mono HY1.out.size)
      clear q1 q2 r1
      go_wp2
      go_ret
      exact ⟨rfl, (HB2.out.trans (HX.out.mono HB2.out.size)).trans (HY2.out.mono (HB2.out.trans (HX.out.mono HB2.out.size)).size)⟩
    | true =>
      go_wp2_with fail
      refine (specB_any vc C _ (RC.out _ (HX.out.trans (HX4.out.mono HX.out.size))) IC.out).mono ?_
      rintro e x5 ⟨rfl, q⟩
      have HX5 : Hid (Below X.heap.size X x5) := HX4.out.trans (q.mono HX4.out.size)
      clear q
      cases hbC : beatsL C with
      | false =>
        go_wp2_with fail
        refine (specM_any va vb A B _ (RA.out _ (HX.out.trans (HX5.out.mono HX.out.size))) (RB.out _ (HX.out.trans (HX5.out.mono HX.out.size))) IA.out IB.out).mono ?_
        rintro e y1 ⟨u1, rfl, r1, q1⟩
        have HY1 : Hid (Below X.heap.size X y1) := HX5.out.trans (q1.mono HX5.out.size)
        go_wp2_with fail
        refine (same_any _ _ _ _ (RM.out _ HY1.out) r1.rd).mono ?_
        rintro e y2 ⟨rfl, q2⟩
        have HY2 : Hid (Below X.heap.size X y2) := HY1.out.trans (q2.mono HY1.out.size)
        clear q1 q2 r1
        go_wp2
        go_ret
        exact ⟨rfl, (HB2.out.trans (HX.out.mono HB2.out.size)).trans (HY2.out.mono (HB2.out.trans (HX.out.mono HB2.out.size)).size)⟩
      | true =>
        have FA : Hid (Few A) := ⟨hbA, HA.out.2⟩
        have FB : Hid (Few B) := ⟨hbB, HBd.out.2⟩
        have FC : Hid (Few C) := ⟨hbC, HC.out⟩
        have UA := beatsL_up hbA
        have UB := beatsL_up hbB
        have UC := beatsL_up hbC
        have FM : Hid (Few (mgA A B)) := FA.out.mg FB.out
        have FN : Hid (Few (mgA B C)) := FB.out.mg FC.out
        have eM : mgRA A B = mgA A B := mgRA_is hbA hbB
        rw [eM] at RM
        have E1 : Hid (mgRA B A = mgA A B) := by show _ = _; rw [mgRA_is hbB hbA, mgA_comm UA UB]
        have E2 : Hid (mgRA (mgA A B) (mgA A B) = mgA A B) := by show _ = _; rw [mgRA_is FM.out.1 FM.out.1, mgA_self (mgA_up _ _)]
        have E3 : Hid (mgRA B C = mgA B C) := by show _ = _; rw [mgRA_is hbB hbC]
        have E4 : Hid (mgRA A (mgA B C) = mgRA (mgA A B) C) := by show _ = _; rw [mgRA_is hbA FN.out.1, mgRA_is FM.out.1 hbC, mgA_assoc UA UB UC]
        have hl5 : (mgRA (mgA A B) C).length ≤ 5 := by
          rw [mgRA_is FM.out.1 hbC]
          exact few5 (mgA_up _ _) (FM.out.mg FC.out).2
        have IM : Hid (∀ x ∈ mgA A B, x.in) := fun x hx => (FM.out.2 x hx).2.2
        have IN : Hid (∀ x ∈ mgA B C, x.in) := fun x hx => (FN.out.2 x hx).2.2
        generalize mgA A B = M at RM E1 E2 E4 IM hl5
        generalize mgA B C = N at E3 E4 IN
        clear hbA hbB hbC UA UB UC FA FB FC FM FN eM
        go_wp2_with fail
        refine (implM_any vm vc M C _ (RM.out _ HX5.out) (RC.out _ (HX.out.trans (HX5.out.mono HX.out.size))) IM.out IC.out).mono ?_
        rintro e z1 ⟨vx, rfl, hx, q⟩
        have HZ1 : Hid (Below X.heap.size X z1) := HX5.out.trans (q.mono HX5.out.size)
        obtain ⟨ax, cx, rfl, _⟩ := hx.evs
        have RX : Hid (∀ w', Below z1.heap.size z1 w' → RdV w' (.slice ax (mgRA M C).length cx) (mgRA M C)) := fun w' h => (hx.below h).rd
        clear hx q
        go_wp2_with fail
        refine (implM_any vb vc B C _ (RB.out _ (HX.out.trans (HZ1.out.mono HX.out.size))) (RC.out _ (HX.out.trans (HZ1.out.mono HX.out.size))) IB.out IC.out).mono ?_
        rintro e z2 ⟨vn, rfl, hn, q⟩
        have HZ2 : Hid (Below z1.heap.size z1 z2) := q
        have hz2 := HZ1.out.trans (HZ2.out.mono HZ1.out.size)
        rw [E3.out] at hn
        have HZ2X : Hid (Below X.heap.size X z2) := hz2
        have RN : Hid (RdV z2 vn N) := hn.rd
        clear hn q hz2
        go_wp2_with fail
        refine (implM_any va vn A N _ (RA.out _ (HX.out.trans (HZ2X.out.mono HX.out.size))) RN.out IA.out IN.out).mono ?_
        rintro e z3 ⟨vy, rfl, hy, q⟩
        have HZ3 : Hid (Below z1.heap.size z1 z3) := HZ2.out.trans (q.mono HZ2.out.size)
        have HZ3X : Hid (Below X.heap.size X z3) := HZ2X.out.trans (q.mono HZ2X.out.size)
        rw [E4.out] at hy
        have RY : Hid (∀ w', Below z3.heap.size z3 w' → RdV w' vy (mgRA M C)) := fun w' h => (hy.below h).rd
        clear hy q
        go_wp2_with fail
        refine (implM_any vb va B A _ (RB.out _ (HX.out.trans (HZ3X.out.mono HX.out.size))) (RA.out _ (HX.out.trans (HZ3X.out.mono HX.out.size))) IB.out IA.out).mono ?_
        rintro e z4 ⟨v4, rfl, h4, q⟩
        have HZ4 : Hid (Below z3.heap.size z3 z4) := q
        have HZ4X : Hid (Below X.heap.size X z4) := HZ3X.out.trans (q.mono HZ3X.out.size)
        rw [E1.out] at h4
        clear q
        go_wp2_with fail
        refine (same_any _ _ _ _ h4.rd (RM.out _ HZ4X.out)).mono ?_
        rintro e z5 ⟨rfl, q⟩
        have HZ5 : Hid (Below z3.heap.size z3 z5) := HZ4.out.trans (q.mono HZ4.out.size)
        have HZ5X : Hid (Below X.heap.size X z5) := HZ4X.out.trans (q.mono HZ4X.out.size)
        clear q h4
        go_wp2_with fail
        refine (implM_any vm vm M M _ (RM.out _ HZ5X.out) (RM.out _ HZ5X.out) IM.out IM.out).mono ?_
        rintro e z6 ⟨v6, rfl, h6, q⟩
        have HZ6 : Hid (Below z3.heap.size z3 z6) := HZ5.out.trans (q.mono HZ5.out.size)
        have HZ6X : Hid (Below X.heap.size X z6) := HZ5X.out.trans (q.mono HZ5X.out.size)
        rw [E2.out] at h6
        clear q
        go_wp2_with fail
        refine (same_any _ _ _ _ h6.rd (RM.out _ HZ6X.out)).mono ?_
        rintro e z7 ⟨rfl, q⟩
        have HZ7 : Hid (Below z3.heap.size z3 z7) := HZ6.out.trans (q.mono HZ6.out.size)
        have HZ7X : Hid (Below X.heap.size X z7) := HZ6X.out.trans (q.mono HZ6X.out.size)
        have HZ71 : Hid (Below z1.heap.size z1 z7) := HZ3.out.trans (HZ7.out.mono HZ3.out.size)
        clear q h6
        obtain ⟨n, hn⟩ : ∃ n, n = (mgRA M C).length := ⟨_, rfl⟩
        rw [← hn] at hl5 RX ⊢
        have hd1 : decide ((12 : Int) < (n : Int)) = false := decide_eq_false (by omega)
        have hd2 : ¬ ((12 : Int) < (n : Int)) := by omega
        clear hn
        go_wp2_with fail
        refine (same_any _ _ _ _ (RX.out _ HZ71.out) (RY.out _ HZ7.out)).mono ?_
        rintro e z8 ⟨rfl, q⟩
        have HZ8X : Hid (Below X.heap.size X z8) := HZ7X.out.trans (q.mono HZ7X.out.size)
        clear q
        go_wp2
        go_ret
        exact ⟨rfl, (HB2.out.trans (HX.out.mono HB2.out.size)).trans (HZ8X.out.mono (HB2.out.trans (HX.out.mono HB2.out.size)).size)⟩

set_option maxRecDepth 100000 in
theorem bmerged_lifted (os : Os) (started : os.Started) (H : Type) (enc : TypeId × Value → H) :
    ReturnsInHanded {} Try.checked os 4 .any (Rows.fnBeatsMergedSpec.pre6 enc Try.prog Try.f4 Rows.fnBeatsMergedRow.domain false) (Rows.fnBeatsMergedSpec.post enc Try.prog Try.f4 false true false false) := by
  refine returnsInHanded_of_change (C := Try.checked) own started (by kernel_rfl) Try.func4
    (ChangeSpec.witness6 (enc := enc) (C := Try.checked) false ⟨#[], #[.slice none 0 0], []⟩ 8 (by kernel_rfl) (by kernel_rfl) (by kernel_rfl) (by kernel_rfl)) ?_
  intro W base args ds gs before hval0 hW hcnd _
  have hval : ∀ (j : Nat) t v, Try.f4.params[j]? = some t → args[j]? = some v → Value.okWide Try.prog W .any base t v := hval0
  have hW' := hW
  obtain ⟨p, q, hA0, hV, rfl, hfz, hnd⟩ := hW
  have hA : DataW.TrodAll enc Try.prog W 0 (fun _ => true) true Try.f4.params.toList args.toList ds p := hA0
  rw [Try.params4] at hA hval
  obtain ⟨v0, vs0, d0, ds0, p0, q0, hargs, rfl, rfl, h0, r0⟩ := trodAll_cons hA
  obtain ⟨rfl, rfl, rfl⟩ := trodAll_nil r0
  obtain rfl : args = #[v0] := by cases args; simp_all
  obtain ⟨rfl, rfl⟩ := trodVars_none hV
  obtain ⟨a0, len0, cap0, rfl⟩ := okWide_slice Try.underlying22 (hval 0 22 v0 rfl rfl)
  have k0 := h0
  have lt0 : ∀ x ∈ p0, x.block < W.heap.size := by obtain ⟨m, hm⟩ := k0; exact DataW.trod_lt m _ _ _ hm
  obtain ⟨Z, w0⟩ : ∃ Z, IsU8 W a0 len0 cap0 Z := by
    obtain ⟨fuel, hf⟩ := h0
    obtain ⟨a, len, cap, Z, e, hI⟩ := open_u8 (by simpa [Value.cells] using hf)
    simp at e
    obtain ⟨rfl, rfl, rfl⟩ := e
    exact ⟨Z, hI⟩
  clear hA0 hval0
  refine (bmerged_walk W w0).mono fun e W' ⟨he, bel⟩ => ?_
  subst he
  exact ⟨_, rfl, _, _, _, [], _, [], hW', trodAll_mk1 (shut_bool Try.underlying4 _), (trodAll_cons_mk (Below.trod laidOut (by kernel_rfl) (of_decide_eq_true (by kernel_rfl)) k0 bel lt0) trodAll_mk0), rfl, bel.frame _, fun h => by cases h⟩

theorem bmerged_proved : Rows.FnBeatsMergedSaid :=
  OpenClaim.holds_of_wide 4 Try.f4 rfl rfl rfl rfl rfl rfl rfl ⟨rfl, rfl, rfl, rfl, rfl⟩ rfl rfl rfl rfl rfl (by kernel_rfl) Try.func4 (by kernel_rfl)
    (of_decide_eq_true (by kernel_rfl)) (by unfold Func.isWrapper; first | (rw [if_pos (by decide +kernel)]; kernel_rfl) | (rw [if_neg (by decide +kernel)]; exact ⟨rfl, rfl⟩))
    (fun os started H enc _ => bmerged_lifted os started H enc)
#print axioms bmerged_proved
end Go.Proofs.Ytnjlegphohmajaa
