/-
  The specification's Crash. No condition but that the slices read and that the sizes are small.
-/
import Derived.Test.YtdlkokdhbffhpaaDkDs
import Derived.Test.YtdlkokdhbffhpaaDkCa
namespace Go.Proofs.Ytdlkokdhbffhpaa
open Go.RowKit
set_option linter.unusedVariables false

/-- whether there is an answer -/
def crOk (L S : List Fl) (O : List Dop) (Z : List Int) (tn : Int) : Bool := diskB L S O && (decide (0 ≤ tn) && (placesB O.length Z && filesB (crF S O Z tn.toNat Z.length)))
/-- the files behind it -/
def crR (L S : List Fl) (O : List Dop) (Z : List Int) (tn : Int) : List Fl := if crOk L S O Z tn = true then crF S O Z tn.toNat Z.length else []
theorem cr_no {L S : List Fl} {O : List Dop} {Z : List Int} {tn : Int} (h : crOk L S O Z tn = false) : crR L S O Z tn = [] := by
  unfold crR
  rw [h]
  rfl
theorem cr_yes {L S : List Fl} {O : List Dop} {Z : List Int} {tn : Int} (h : crOk L S O Z tn = true) : crR L S O Z tn = crF S O Z tn.toNat Z.length := by
  unfold crR
  rw [if_pos h]

theorem wpList_app0F {ops : Array Oper} {rest : List Oper} {o : Oper} {a : Act} {Q : Exit → Act → World → Prop} {w : World} (hgd : o.guard = none) (x y : Operand) (base g : Nat) (L : List Fl) (ho : o.op = .call { callee := .builtin .append, args := #[x, y], argTypes := #[27, 27] }) (hx : a.eval x = .slice (some ⟨g, 0, none⟩) 0 0) (hg : w.heap[g]? = some (.cells #[] 66 (0, 0))) (hb : base ≤ g) (hy : RdF w (a.eval y) L) (hL : L.length ≤ 1048576)
    (h : ∀ v w', HoldF w' base v L → Below w.heap.size w w' → wpList Try.prog ops Q rest (a.put o.dst v) w') : wpList Try.prog ops Q (o :: rest) a w := by
  refine wpList_plain hgd fun K hK => ?_
  obtain ⟨v', w', hr, h1, h2⟩ := app0F w base o.type g (a.eval y) L hg hb hy hL
  unfold Oper.wp
  simp [execOp, ho, resolve, invoke, builtin, hx, hr, Result.andThen]
  exact hK _ _ (h _ _ h1 h2)

theorem wpList_build2 {ops : Array Oper} {rest : List Oper} {o : Oper} {A : Act} {Q : Exit → Act → World → Prop} {w : World} (hgd : o.guard = none) (x y : Operand) {a b : Option Addr} {i j k l : Nat} (ho : o.op = .build 30 #[(0, x), (1, y)]) (hx : A.eval x = .slice a i j) (hy : A.eval y = .slice b k l)
    (h : wpList Try.prog ops Q rest (A.put o.dst (.agg #[.slice a i j, .slice b k l, .slice none 0 0])) w) : wpList Try.prog ops Q (o :: rest) A w := by
  refine wpList_plain hgd fun K hK => ?_
  unfold Oper.wp
  rw [q_build2 A.eval o w x y ho hx hy]
  exact hK _ _ h

set_option maxRecDepth 10000 in
set_option maxHeartbeats 8000000 in
theorem specCrash_any (vL vS vO vK : Value) (L S : List Fl) (O : List Dop) (Z : List Int) (tn : Int) (w : World) (h : RdD w vL vS vO L S O) (hK : RdI w vK Z) (hz : SmallD L S O) (hn : L.length ≤ 1048576 ∧ S.length ≤ 1048576 ∧ O.length ≤ 1048576) (hkz : Z.length ≤ 1048576) :
    Calls Try.prog 19 #[.agg #[vL, vS, vO], vK, .int .i64 tn] w fun e w' => ∃ x y z, e = .returned (.tuple #[.agg #[x, y, z], .bool (crOk L S O Z tn)]) ∧ RdD w' x y z (crR L S O Z tn) (crR L S O Z tn) [] ∧ Below w.heap.size w w' := by
  have HN : Hid (L.length ≤ 1048576 ∧ S.length ≤ 1048576 ∧ O.length ≤ 1048576) := hn
  have HZ : Hid (SmallD L S O) := hz
  have HA : Hid (∀ w', Below w.heap.size w w' → RdD w' vL vS vO L S O) := fun w' hB => h.below hB
  have HKR : Hid (∀ w', Below w.heap.size w w' → RdI w' vK Z) := fun w' hB => hK.below hB
  obtain ⟨aL, cL, eL⟩ := h.1.slice
  obtain ⟨nL, hnL⟩ : ∃ n, n = L.length := ⟨_, rfl⟩
  rw [← hnL] at eL
  obtain ⟨aS, cS, eS⟩ := h.2.1.slice
  obtain ⟨nS, hnS⟩ : ∃ n, n = S.length := ⟨_, rfl⟩
  rw [← hnS] at eS
  obtain ⟨aO, cO, eO⟩ := h.2.2.slice
  obtain ⟨nO, hnO⟩ : ∃ n, n = O.length := ⟨_, rfl⟩
  rw [← hnO] at eO
  subst eL eS eO
  have HE : Hid (nL = L.length ∧ nS = S.length ∧ nO = O.length) := ⟨hnL, hnS, hnO⟩
  have HCO : Hid (0 < nO → ∃ b off, aO = some ⟨b, off, none⟩ ∧ ∀ w', Below w.heap.size w w' → ∀ i, i < nO → ∀ t, t < 4 → w'.cell? ⟨b, off + i * 4 + t, none⟩ = (encO (O.getD i dopZ))[t]?) := fun hp => by
    obtain ⟨a', c', e', _, _, h3⟩ := h.2.2
    simp only [Value.slice.injEq] at e'
    obtain ⟨ea, _, _⟩ := e'
    obtain ⟨b, off, e, hb, hcc⟩ := h3 (by omega)
    exact ⟨b, off, ea.trans e, fun w' hB i hi t ht => (hB.cell (p := ⟨b, off + i * 4 + t, none⟩) hb).trans (hcc i (by omega) t ht)⟩
  obtain ⟨aK, cK, eK, hkc, hkm, hkk⟩ := hK
  obtain ⟨nK, hnK⟩ : ∃ n, n = Z.length := ⟨_, rfl⟩
  rw [← hnK] at eK hkc hkk
  subst eK
  have HNK : Hid (nK = Z.length) := hnK
  have HCK : Hid (0 < nK → ∃ b off, aK = some ⟨b, off, none⟩ ∧ ∀ w', Below w.heap.size w w' → ∀ i, i < nK → w'.cell? ⟨b, off + i, none⟩ = some (.int .i64 (Z.getD i 0))) := fun hp => by
    obtain ⟨b, off, e, hb, hcc⟩ := hkk hp
    exact ⟨b, off, e, fun w' hB i hi => (hB.cell (p := ⟨b, off + i, none⟩) hb).trans (hcc i hi)⟩
  have HKL : Hid (nK ≤ 1048576) := by show _ ≤ _; omega
  obtain ⟨X, hX⟩ : ∃ X, X = (w.alloc (.cells #[.slice aL nL cL, .slice aS nS cS, .slice aO nO cO] 30)).alloc (.cells #[.slice none 0 0, .slice none 0 0, .slice none 0 0] 30) := ⟨_, rfl⟩
  have hBX : Below w.heap.size w X := by rw [hX]; exact ((Below.refl _ _).alloc (Nat.le_refl _) _).alloc (by simp) _
  have gX : X.heap[w.heap.size]? = some (.cells #[.slice aL nL cL, .slice aS nS cS, .slice aO nO cO] 30 (0, 0)) := by rw [hX, Below.heap_alloc _ _ _ (by simp)]; exact heap_alloc_new _ _
  have gR : X.heap[w.heap.size + 1]? = some (.cells #[.slice none 0 0, .slice none 0 0, .slice none 0 0] 30 (0, 0)) := by
    rw [hX]
    have := heap_alloc_new (w.alloc (.cells #[.slice aL nL cL, .slice aS nS cS, .slice aO nO cO] 30)) (.cells #[.slice none 0 0, .slice none 0 0, .slice none 0 0] 30)
    simpa using this
  have HX := (show Hid _ from hX)
  have HBX : Hid (Below w.heap.size w X) := hBX
  have HG : Hid (∀ w', Below X.heap.size X w' → At3 w' w.heap.size 30 (.slice aL nL cL) (.slice aS nS cS) (.slice aO nO cO) ∧ At3 w' (w.heap.size + 1) 30 (.slice none 0 0) (.slice none 0 0) (.slice none 0 0) ∧ Below w.heap.size w w') := fun w' hB => ⟨(hB.block _ (lt_of_block gX)).trans gX, (hB.block _ (lt_of_block gR)).trans gR, hBX.trans (hB.mono hBX.size)⟩
  have c0 : X.cell? ⟨w.heap.size, 0, none⟩ = some (.slice aL nL cL) := cellN gX
  have c1 : X.cell? ⟨w.heap.size, 1, none⟩ = some (.slice aS nS cS) := cellN gX
  have c2 : X.cell? ⟨w.heap.size, 2, none⟩ = some (.slice aO nO cO) := cellN gX
  rw [hX] at c0 c1 c2
  clear hX hBX gX gR h hz hn hkz hkk hkc hkm hnL hnS hnO hnK
  go_enter Try.func19, Try.ntmps19
  go_wp2_with fail
  rw [← HX.out]
  have hAX := HA.out X HBX.out
  refine (specDisk_any _ _ _ L S O X hAX.1 hAX.2.1 hAX.2.2 HZ.out).mono ?_
  rintro e w1 ⟨rfl, hB1⟩
  have HB1 : Hid (Below X.heap.size X w1) := hB1
  clear c0 c1 c2 HX hB1 hAX
  have HEND : Hid (∀ wy, Below X.heap.size X wy → True) := fun _ _ => trivial
  cases hd : diskB L S O with
  | false =>
    have HD : Hid (crOk L S O Z tn = false) := by show _ = _; unfold crOk; rw [hd]; rfl
    have HR3 : Hid (At3 w1 (w.heap.size + 1) 30 (.slice none 0 0) (.slice none 0 0) (.slice none 0 0)) := (HG.out w1 HB1.out).2.1
    obtain ⟨q, hq, hi6, ho6, h16⟩ := row3 none none none 0 0 0 0 0 0
    clear hd
    go_wp2_with (refine wpList_store_row rfl 30 _ _ rfl (w.heap.size + 1) q rfl (congrArg Value.agg hq.symm) 30 _ HR3.out hi6 ho6 h16 ?_)
    subst hq
    refine bodyPost_ret (v := .tuple #[.agg #[.slice none 0 0, .slice none 0 0, .slice none 0 0], _]) (results_row_tmp rfl _ _ (w.heap.size + 1) 30 _ _ _ rfl (setRow_heap _ _ _ _ _ _ HR3.out) Try.underlying30 rfl hi6) rfl ⟨_, _, _, ret_val (by rw [HD.out]; rfl), ?_, ?_⟩
    · rw [cr_no HD.out]
      exact ⟨(HoldF.nil _ 0).1, (HoldF.nil _ 0).1, (HoldO.nil _ 0).1⟩
    · exact below_setRow (HG.out w1 HB1.out).2.2 (by omega) _
  | true =>
    by_cases h0 : 0 ≤ tn
    · have HH : Hid (crOk L S O Z tn = (placesB O.length Z && filesB (crF S O Z tn.toNat Z.length))) := by
        show _ = _
        unfold crOk
        rw [hd, decide_eq_true h0]
        rfl
      have h0n : ¬ tn < 0 := by omega
      have HDD : Hid (diskB L S O = true) := hd
      clear hd
      have hnk : nK ≤ 1048576 := HKL.out
      go_wp2
      go_loopw [8] (fun i wr => ∃ (k : Nat), k ≤ nK ∧ i = .int .i64 k ∧ Hid ((∀ j, j < k → plB nO Z j = true) ∧ Below X.heap.size X wr)) (fun i _ => nK - (intOf i).toNat)
      case atStart => exact ⟨0, Nat.zero_le _, rfl, (fun j hj => absurd hj (Nat.not_lt_zero _)), HB1.out⟩
      case round =>
        obtain ⟨k, hk, rfl, HI⟩ := hrel
        have HBR : Hid (Below X.heap.size X wr) := HI.out.2
        by_cases hlt : k < nK
        · have hltI : (k : Int) < (nK : Int) := by omega
          obtain ⟨b, off, rfl, hl⟩ := HCK.out (by omega)
          have hg := HG.out wr HBR.out
          have d0 := hl wr hg.2.2 k hlt
          obtain ⟨k1, hk1⟩ : ∃ k1, k1 = k - 1 := ⟨_, rfl⟩
          have p0 : 0 < k → wr.cell? ⟨b, off + k1, none⟩ = some (.int .i64 (Z.getD k1 0)) := fun hp => hl wr hg.2.2 k1 (by omega)
          obtain ⟨m1, hm1⟩ : ∃ m1, m1 = (nO : Int) - 1 := ⟨_, rfl⟩
          have hno : nO ≤ 1048576 := by have := HN.out; have := HE.out; omega
          have hwO : IntKind.i64.wrap ((nO : Int) - 1) = m1 := by rw [IntKind.wrap_i64, hm1]; omega
          have HPL : Hid (plB nO Z k = (inB 0 m1 (Z.getD k 0) && (decide (k = 0) || decide (Z.getD k1 0 < Z.getD k 0)))) := by show _ = _; unfold plB; rw [hm1, hk1]
          obtain ⟨x, hx⟩ : ∃ x, x = Z.getD k 0 := ⟨_, rfl⟩
          obtain ⟨y, hy⟩ : ∃ y, y = Z.getD k1 0 := ⟨_, rfl⟩
          rw [← hx] at d0 HPL
          rw [← hy] at p0 HPL
          have s0 : ∀ s : Later wr, s.val.cell? ⟨b, off + k, none⟩ = some (.int .i64 x) := fun s => s.cell d0
          have s2 : ∀ s : Later wr, s.val.cell? ⟨w.heap.size, 2, none⟩ = some (.slice aO nO cO) := fun s => s.cell hg.1.c2
          have HXI : Hid (∀ t : Later wr, Calls Try.prog 49 #[.int .i64 x, .int .i64 0, .int .i64 m1] t.val fun e w' => e = .returned (.bool (inB 0 m1 x)) ∧ Below t.val.heap.size t.val w') := fun t => by
            refine (in_any x 0 m1 t.val).mono ?_
            rintro e w' ⟨rfl, hw⟩
            rw [hw]
            exact ⟨rfl, Below.refl _ _⟩
          have hne := Later.any wr
          have HBADP : Hid (plB nO Z k = false → crOk L S O Z tn = false) := fun hp => by
            rw [HH.out, ← HE.out.2.2, placesB_no (by rw [← HNK.out]; exact hlt) hp]
            rfl
          clear hl hx hy hg d0 hm1
          cases hin : inB 0 m1 x with
          | false =>
            rw [hin] at HXI HPL
            have HD : Hid (crOk L S O Z tn = false) := HBADP.out (by rw [HPL.out]; rfl)
            clear p0 hk1
            go_wp2
            refine wp_region_later (by kernel_rfl) (by kernel_rfl) ?_
            repeat (go_big_quiet_step (first | (rename_i t; with_reducible exact Calls.later (HXI.out t))))
            refine wpQuiet_nil ?_
            rintro _ ⟨s5, rfl⟩
            have HB5 : Hid (Below X.heap.size X s5.val) := HBR.out.trans (s5.ok.mono HBR.out.size)
            obtain ⟨w6, hw6⟩ : ∃ w6, w6 = s5.val := ⟨_, rfl⟩
            rw [← hw6] at HB5 ⊢
            clear hw6 hne HXI s0 s2 s5
            have HR3 : Hid (At3 w6 (w.heap.size + 1) 30 (.slice none 0 0) (.slice none 0 0) (.slice none 0 0)) := (HG.out w6 HB5.out).2.1
            obtain ⟨q, hq, hi6, ho6, h16⟩ := row3 none none none 0 0 0 0 0 0
            go_wp2_with (refine wpList_store_row rfl 30 _ _ rfl (w.heap.size + 1) q rfl (congrArg Value.agg hq.symm) 30 _ HR3.out hi6 ho6 h16 ?_)
            subst hq
            refine bodyPost_ret (v := .tuple #[.agg #[.slice none 0 0, .slice none 0 0, .slice none 0 0], _]) (results_row_tmp rfl _ _ (w.heap.size + 1) 30 _ _ _ rfl (setRow_heap _ _ _ _ _ _ HR3.out) Try.underlying30 rfl hi6) rfl ⟨_, _, _, ret_val (by rw [HD.out]; rfl), ?_, ?_⟩
            · rw [cr_no HD.out]
              exact ⟨(HoldF.nil _ 0).1, (HoldF.nil _ 0).1, (HoldO.nil _ 0).1⟩
            · exact below_setRow (HG.out w6 HB5.out).2.2 (by omega) _
          | true =>
            rw [hin] at HXI HPL
            by_cases hp : 0 < k
            · have hg1 : decide ((0 : Int) < (k : Int)) = true := decide_eq_true (by omega)
              have hg2 : decide (0 < k) = true := decide_eq_true hp
              have s1 : ∀ s : Later wr, s.val.cell? ⟨b, off + k1, none⟩ = some (.int .i64 y) := fun s => s.cell (p0 hp)
              have hk1I : IntKind.i64.wrap ((k : Int) - 1) = (k1 : Int) := by rw [IntKind.wrap_i64]; omega
              have hk1n : (k1 : Int) < (nK : Int) := by omega
              have hk1m : k1 < nK := by omega
              rw [decide_eq_false (show ¬ k = 0 by omega)] at HPL
              clear p0 hk1
              by_cases hxy : y < x
              · have hxz : ¬ x ≤ y := by omega
                rw [decide_eq_true hxy] at HPL
                have HJ : Hid (∀ j, j < k + 1 → plB nO Z j = true) := fun j hj => by
                  rcases Nat.lt_succ_iff_lt_or_eq.1 hj with h | rfl
                  · exact HI.out.1 j h
                  · exact HPL.out
                go_wp2
                refine wp_region_later (by kernel_rfl) (by kernel_rfl) ?_
                repeat (go_big_quiet_step (first | (rename_i t; with_reducible exact Calls.later (HXI.out t))))
                refine wpQuiet_nil ?_
                rintro _ ⟨s5, rfl⟩
                have HB5 : Hid (Below X.heap.size X s5.val) := HBR.out.trans (s5.ok.mono HBR.out.size)
                obtain ⟨w6, hw6⟩ : ∃ w6, w6 = s5.val := ⟨_, rfl⟩
                rw [← hw6] at HB5 ⊢
                clear hw6 hne HXI s0 s2 s5 s1
                go_wp2
                exact ⟨⟨k + 1, by omega, by simp, HJ.out, HB5.out⟩, by simp [intOf]; omega⟩
              · have hxz : x ≤ y := by omega
                rw [decide_eq_false hxy] at HPL
                have HD : Hid (crOk L S O Z tn = false) := HBADP.out (by rw [HPL.out]; rfl)
                go_wp2
                refine wp_region_later (by kernel_rfl) (by kernel_rfl) ?_
                repeat (go_big_quiet_step (first | (rename_i t; with_reducible exact Calls.later (HXI.out t))))
                refine wpQuiet_nil ?_
                rintro _ ⟨s5, rfl⟩
                have HB5 : Hid (Below X.heap.size X s5.val) := HBR.out.trans (s5.ok.mono HBR.out.size)
                obtain ⟨w6, hw6⟩ : ∃ w6, w6 = s5.val := ⟨_, rfl⟩
                rw [← hw6] at HB5 ⊢
                clear hw6 hne HXI s0 s2 s5 s1
                have HR3 : Hid (At3 w6 (w.heap.size + 1) 30 (.slice none 0 0) (.slice none 0 0) (.slice none 0 0)) := (HG.out w6 HB5.out).2.1
                obtain ⟨q, hq, hi6, ho6, h16⟩ := row3 none none none 0 0 0 0 0 0
                go_wp2_with (refine wpList_store_row rfl 30 _ _ rfl (w.heap.size + 1) q rfl (congrArg Value.agg hq.symm) 30 _ HR3.out hi6 ho6 h16 ?_)
                subst hq
                refine bodyPost_ret (v := .tuple #[.agg #[.slice none 0 0, .slice none 0 0, .slice none 0 0], _]) (results_row_tmp rfl _ _ (w.heap.size + 1) 30 _ _ _ rfl (setRow_heap _ _ _ _ _ _ HR3.out) Try.underlying30 rfl hi6) rfl ⟨_, _, _, ret_val (by rw [HD.out]; rfl), ?_, ?_⟩
                · rw [cr_no HD.out]
                  exact ⟨(HoldF.nil _ 0).1, (HoldF.nil _ 0).1, (HoldO.nil _ 0).1⟩
                · exact below_setRow (HG.out w6 HB5.out).2.2 (by omega) _
            · have hk0 : k = 0 := by omega
              have hg1 : decide ((0 : Int) < (k : Int)) = false := decide_eq_false (by omega)
              have hg2 : decide (0 < k) = false := decide_eq_false hp
              rw [decide_eq_true hk0] at HPL
              have HJ : Hid (∀ j, j < k + 1 → plB nO Z j = true) := fun j hj => by
                rcases Nat.lt_succ_iff_lt_or_eq.1 hj with h | rfl
                · exact HI.out.1 j h
                · exact HPL.out
              clear p0 hk1 hk0
              go_wp2
              refine wp_region_later (by kernel_rfl) (by kernel_rfl) ?_
              repeat (go_big_quiet_step (first | (rename_i t; with_reducible exact Calls.later (HXI.out t))))
              refine wpQuiet_nil ?_
              rintro _ ⟨s5, rfl⟩
              have HB5 : Hid (Below X.heap.size X s5.val) := HBR.out.trans (s5.ok.mono HBR.out.size)
              obtain ⟨w6, hw6⟩ : ∃ w6, w6 = s5.val := ⟨_, rfl⟩
              rw [← hw6] at HB5 ⊢
              clear hw6 hne HXI s0 s2 s5
              go_wp2
              exact ⟨⟨k + 1, by omega, by simp, HJ.out, HB5.out⟩, by simp [intOf]; omega⟩
        · have hltI : ¬ (k : Int) < (nK : Int) := by omega
          have HPB : Hid (placesB O.length Z = true) := placesB_yes fun i hi => by rw [← HE.out.2.2]; exact HI.out.1 i (by rw [← HNK.out] at hi; omega)
          have HSR : Hid (RdF (wr.alloc (.cells #[] 66)) (.slice aS nS cS) S) := (HA.out _ ((HG.out wr HBR.out).2.2)).2.1.below ((Below.refl _ _).alloc (Nat.le_refl _) _)
          have hg := HG.out wr HBR.out
          have c0 := hg.1.c0
          have c1 := hg.1.c1
          have c2 := hg.1.c2
          have e1 : (wr.alloc (.cells #[] 66)).cell? ⟨w.heap.size, 1, none⟩ = some (.slice aS nS cS) := (((Below.refl wr.heap.size wr).alloc (Nat.le_refl _) _).cell (p := ⟨w.heap.size, 1, none⟩) (hg.1.lt)).trans c1
          clear HI hg
          go_wp2_with (at_builtin; refine wpList_app0F rfl _ _ wr.heap.size wr.heap.size S rfl rfl (heap_alloc_new _ _) (Nat.le_refl _) HSR.out HN.out.2.1 ?_; intro nv w7 hnv hB7)
          have HB7 : Hid (Below X.heap.size X w7) := HBR.out.trans (((Below.refl _ _).alloc HBR.out.size _).trans (hB7.mono (by have := HBR.out.size; simp; omega)))
          have HNV : Hid (HoldF w7 X.heap.size nv S) := hnv.base HBR.out.size
          clear hnv hB7 c0 c1 c2 e1 HSR
          have HDK : Hid (filesB S = true ∧ O.length ≤ 200) := ⟨(disk_live HDD.out).2.1, (disk_live HDD.out).2.2⟩
          obtain ⟨tt, htt⟩ : ∃ tt : Nat, tt = tn.toNat := ⟨_, rfl⟩
          have htI : tn = (tt : Int) := by omega
          have HTT : Hid (tt = tn.toNat) := htt
          have HF : Hid (∀ k, k ≤ nK → UpF (crF S O Z tt k) ∧ (∀ f ∈ crF S O Z tt k, nmB f.n = true) ∧ (crF S O Z tt k).length ≤ 260 ∧ tot (crF S O Z tt k) ≤ 50000000) := fun k hk => by
            have hl := places_len HPB.out
            have h60 := filesB_parts HDK.out.1
            obtain ⟨f1, f2, f3, f4⟩ := crF_facts (t := tt) HDD.out (filesB_up HDK.out.1) (filesB_names HDK.out.1) (disk_small HDD.out) HPB.out k (by rw [← HNK.out]; exact hk)
            have h200 := HDK.out.2
            have : k ≤ 200 := by have := HNK.out; omega
            exact ⟨f1, f2, by omega, by have : k * 200000 ≤ 200 * 200000 := Nat.mul_le_mul_right _ this; omega⟩
          rw [← htt] at HH
          subst htI
          clear htt
          go_wp2
          go_loopw [9, 10] (fun v i wr => ∃ (k : Nat) (u : Value), k ≤ nK ∧ i = .int .i64 k ∧ u = v ∧ Hid (HoldF wr X.heap.size u (crF S O Z tt k) ∧ Below X.heap.size X wr)) (fun _ i _ => nK - (intOf i).toNat)
          case atStart => exact ⟨0, _, Nat.zero_le _, rfl, rfl, HNV.out, HB7.out⟩
          case round =>
            obtain ⟨k, u, hk, rfl, rfl, HI⟩ := hrel
            have HBR2 : Hid (Below X.heap.size X wr) := HI.out.2
            by_cases hlt : k < nK
            · have hltI : (k : Int) < (nK : Int) := by omega
              obtain ⟨b, off, rfl, hl⟩ := HCK.out (by omega)
              have hg := HG.out wr HBR2.out
              have d0 := hl wr hg.2.2 k hlt
              have hpl := placesB_at HPB.out (show k < Z.length by rw [← HNK.out]; exact hlt)
              obtain ⟨x, hx⟩ : ∃ x : Nat, (x : Int) = Z.getD k 0 := ⟨(Z.getD k 0).toNat, by omega⟩
              rw [← hx] at d0
              have hxn : x < nO := by have := HE.out; omega
              have hxI : (x : Int) < (nO : Int) := by omega
              obtain ⟨b2, off2, rfl, hl2⟩ := HCO.out (by omega)
              obtain ⟨o, ho⟩ : ∃ o, o = O.getD x dopZ := ⟨_, rfl⟩
              have d1 := hl2 wr hg.2.2 x hxn 0 (by omega)
              have d2 := hl2 wr hg.2.2 x hxn 1 (by omega)
              have d3 := hl2 wr hg.2.2 x hxn 2 (by omega)
              have d4 := hl2 wr hg.2.2 x hxn 3 (by omega)
              rw [← ho] at d1 d2 d3 d4
              have d1' : wr.cell? ⟨b2, off2 + x * 4, none⟩ = some (.int .i64 o.k) := d1
              have d2' : wr.cell? ⟨b2, off2 + x * 4 + 1, none⟩ = some (.string o.n) := d2
              have d3' : wr.cell? ⟨b2, off2 + x * 4 + 2, none⟩ = some (.string o.t) := d3
              have d4' : wr.cell? ⟨b2, off2 + x * 4 + 3, none⟩ = some (.string o.d) := d4
              have c2 := hg.1.c2
              clear d1 d2 d3 d4 hl hl2 hpl hg
              go_wp2
              have HT1 : Hid (∀ wy, Below wr.heap.size wr wy → wy.cell? ⟨w.heap.size, 2, none⟩ = some (.slice (some ⟨b2, off2, none⟩) nO cO) ∧ wy.cell? ⟨b, off + k, none⟩ = some (.int .i64 (x : Int)) ∧ wy.cell? ⟨b2, off2 + x * 4, none⟩ = some (.int .i64 o.k) ∧ wy.cell? ⟨b2, off2 + x * 4 + 1, none⟩ = some (.string o.n) ∧ wy.cell? ⟨b2, off2 + x * 4 + 2, none⟩ = some (.string o.t) ∧ wy.cell? ⟨b2, off2 + x * 4 + 3, none⟩ = some (.string o.d)) := fun wy hy =>
                ⟨(hy.cell (lt_of_cell c2)).trans c2, (hy.cell (lt_of_cell d0)).trans d0, (hy.cell (lt_of_cell d1')).trans d1', (hy.cell (lt_of_cell d2')).trans d2', (hy.cell (lt_of_cell d3')).trans d3', (hy.cell (lt_of_cell d4')).trans d4'⟩
              have HXN : Hid (x < nO ∧ k < nK ∧ o = O.getD x dopZ ∧ (x : Int) = Z.getD k 0) := ⟨hxn, hlt, ho, hx⟩
              clear d0 d1' d2' d3' d4' c2 ho hx hxn hxI
              refine wp_cut_to (fun a0 t w' => ∃ f, t = canon a0 dsV f ∧ (∃ g, f 11 = .pointer (some ⟨g, 0, none⟩) ∧ wr.heap.size ≤ g ∧ w'.heap[g]? = some (.cells #[.int .i64 o.k, .string o.n, .string o.t, .string o.d] 41 (0, 0)) ∧ Below wr.heap.size wr w')) ?_ ?_
              rotate_left
              · intro J K' hJ hK
                refine wp_letter ?_
                intro fr hfr
                have hsz : 70 < fr.tmps.size := by rw [hfr]; exact Nat.le_of_ble_eq_true rfl
                have t1 : fr.eval (.tmp 1) = .slice (some ⟨b, off, none⟩) nK cK := by rw [hfr]; rfl
                have t3 : fr.eval (.tmp 3) = .pointer (some ⟨w.heap.size, 0, none⟩) := by rw [hfr]; rfl
                have t10 : fr.eval (.tmp 10) = .int .i64 (k : Int) := by rw [hfr]; rfl
                have HFR := (show Hid _ from hfr)
                clear hfr
                refine wp_region_fin (Rel := fun v v' => Below v.heap.size v v') (fun v => Below.refl _ _) (fun h k => h.trans (k.mono h.size)) (fun v => (Below.refl _ _).drew) 9 rfl (by kernel_rfl) (by kernel_rfl) dsV slotV (VF w.heap.size wr.heap.size b off nK cK k x b2 off2 nO cO o) _ rfl (by kernel_rfl) (fun _ _ _ _ h hB => h.below hB) ?_ ?_ ?_ ?_ ?_
                · intro j f f' wy hj he h
                  have hj' : j = 0 ∨ j = 1 ∨ j = 2 ∨ j = 3 ∨ j = 4 ∨ j = 5 ∨ j = 6 ∨ j = 7 ∨ j = 8 := by omega
                  rcases hj' with rfl | rfl | rfl | rfl | rfl | rfl | rfl | rfl | rfl
                  · exact h.dep hj (he 0 (by kernel_rfl))
                  · exact h.dep hj (he 1 (by kernel_rfl))
                  · exact h.dep hj (he 2 (by kernel_rfl))
                  · exact h.dep hj (he 3 (by kernel_rfl))
                  · exact h.dep hj (he 4 (by kernel_rfl))
                  · exact h.dep hj (he 5 (by kernel_rfl))
                  · exact h.dep hj (he 6 (by kernel_rfl))
                  · exact h.dep hj (he 7 (by kernel_rfl))
                  · exact h.dep hj (he 8 (by kernel_rfl))
                · intro i hi
                  exact slotV_mem i hi
                · intro i j hi hj q
                  exact slotV_inj i j hi hj q
                · intro ops hops f wy j oo hj hy ho hd
                  have ho2 := ho
                  rw [hops] at ho
                  have N1 := (canon_eval_ne fr dsV f 1 (by decide)).trans t1
                  have N3 := (canon_eval_ne fr dsV f 3 (by decide)).trans t3
                  have N10 := (canon_eval_ne fr dsV f 10 (by decide)).trans t10
                  have hT := HT1.out wy hy
                  have hj' : j = 0 ∨ j = 1 ∨ j = 2 ∨ j = 3 ∨ j = 4 ∨ j = 5 ∨ j = 6 ∨ j = 7 ∨ j = 8 := by omega
                  rcases hj' with rfl | rfl | rfl | rfl | rfl | rfl | rfl | rfl | rfl <;> simp only [List.getElem?_toArray, List.getElem?_cons_succ, List.getElem?_cons_zero, Option.some.injEq] at ho <;> subst ho
                  · refine wpOp_runG ho2 (wanted_none rfl) (q_fieldK (canon fr dsV f).eval _ wy _ w.heap.size 2 rfl N3 (.inr (.inr rfl))) ?_
                    exact ⟨_, rfl, upd_same f 63 _, Below.refl _ _⟩
                  · refine wpOp_runG ho2 (wanted_none rfl) (q_loadO (canon fr dsV f).eval _ wy _ w.heap.size 2 rfl ((canon_eval fr dsV f 63 (by decide) (Nat.lt_of_le_of_lt (by decide) hsz)).trans (hd ⟨0, .data⟩ (by simp) rfl (by decide))) hT.1) ?_
                    exact ⟨_, rfl, upd_same f 64 _, Below.refl _ _⟩
                  · refine wpOp_runG ho2 (wanted_none rfl) (q_moveD (canon fr dsV f).eval _ wy _ rfl) ?_
                    exact ⟨_, rfl, (upd_same f 65 _).trans N1, Below.refl _ _⟩
                  · refine wpOp_runG ho2 (wanted_none rfl) (q_moveD (canon fr dsV f).eval _ wy _ rfl) ?_
                    exact ⟨_, rfl, (upd_same f 66 _).trans N10, Below.refl _ _⟩
                  · refine wpOp_runG ho2 (wanted_none rfl) (q_idxI (canon fr dsV f).eval _ wy _ _ b off nK cK k rfl ((canon_eval fr dsV f 65 (by decide) (Nat.lt_of_le_of_lt (by decide) hsz)).trans (hd ⟨2, .data⟩ (by simp) rfl (by decide))) ((canon_eval fr dsV f 66 (by decide) (Nat.lt_of_le_of_lt (by decide) hsz)).trans (hd ⟨3, .data⟩ (by simp) rfl (by decide))) HXN.out.2.1) ?_
                    exact ⟨_, rfl, upd_same f 67 _, Below.refl _ _⟩
                  · refine wpOp_runG ho2 (wanted_none rfl) (q_loadI (canon fr dsV f).eval _ wy _ b (off + k) (x : Int) rfl ((canon_eval fr dsV f 67 (by decide) (Nat.lt_of_le_of_lt (by decide) hsz)).trans (hd ⟨4, .data⟩ (by simp) rfl (by decide))) hT.2.1) ?_
                    exact ⟨_, rfl, upd_same f 68 _, Below.refl _ _⟩
                  · refine wpOp_runG ho2 (wanted_none rfl) (q_idxO (canon fr dsV f).eval _ wy _ _ b2 off2 nO cO x rfl ((canon_eval fr dsV f 64 (by decide) (Nat.lt_of_le_of_lt (by decide) hsz)).trans (hd ⟨1, .data⟩ (by simp) rfl (by decide))) ((canon_eval fr dsV f 68 (by decide) (Nat.lt_of_le_of_lt (by decide) hsz)).trans (hd ⟨5, .data⟩ (by simp) rfl (by decide))) HXN.out.1) ?_
                    exact ⟨_, rfl, upd_same f 69 _, Below.refl _ _⟩
                  · refine wpOp_runG ho2 (wanted_none rfl) (q_loadOA (canon fr dsV f).eval _ wy _ b2 (off2 + x * 4) o rfl ((canon_eval fr dsV f 69 (by decide) (Nat.lt_of_le_of_lt (by decide) hsz)).trans (hd ⟨6, .data⟩ (by simp) rfl (by decide))) hT.2.2.1 hT.2.2.2.1 hT.2.2.2.2.1 hT.2.2.2.2.2) ?_
                    exact ⟨_, rfl, upd_same f 70 _, Below.refl _ _⟩
                  · refine wpOp_runG ho2 (wanted_none rfl) (q_allocO (canon fr dsV f).eval _ wy rfl) ?_
                    exact ⟨_, rfl, ⟨wy.heap.size, upd_same f 11 _, hy.size, heap_alloc_new _ _⟩, (Below.refl _ _).alloc (Nat.le_refl _) _⟩
                · intro ops hops f wy hy ho hall
                  have ho2 := ho
                  have h70 : f 70 = .agg #[.int .i64 o.k, .string o.n, .string o.t, .string o.d] := hall 7 (by omega)
                  obtain ⟨g, eg, hbg, hgh⟩ := hall 8 (by omega)
                  refine wpOp_storeO ho2 (wanted_none rfl) _ _ g o rfl ((canon_eval fr dsV f 11 (by decide) (Nat.lt_of_le_of_lt (by decide) hsz)).trans eg) ((canon_eval fr dsV f 70 (by decide) (Nat.lt_of_le_of_lt (by decide) hsz)).trans h70) hgh ?_
                  intro wz hz1 hz2 hz3 hz4 hz5 hz6
                  refine hK _ _ (Met.intro (hJ _ _ ⟨f, congrArg (fun z => canon z dsV f) HFR.out, g, eg, hbg, hz1, ⟨hz4.trans hy.os, hz5.trans hy.tape, hz6.trans hy.output, by rw [hz3]; exact hy.size, fun q hq => (hz2 q (by omega)).trans (hy.block q hq)⟩⟩))
              rintro _ w8 ⟨f, rfl, g, h11, hbg, hgh, hB8⟩
              simp only [canon, dsV, List.foldl, Act.put, List.setIfInBounds_toArray, List.set_cons_succ, List.set_cons_zero]
              rw [h11]
              have HB8 : Hid (Below X.heap.size X w8) := HBR2.out.trans (hB8.mono HBR2.out.size)
              have HG8 : Hid (w8.heap[g]? = some (.cells #[.int .i64 o.k, .string o.n, .string o.t, .string o.d] 41 (0, 0))) := hgh
              have HU8 : Hid (RdF w8 u (crF S O Z tt k)) := HI.out.1.1.below hB8
              have HWG : Hid (Below wr.heap.size wr w8 ∧ wr.heap.size ≤ g ∧ RdF wr u (crF S O Z tt k)) := ⟨hB8, hbg, HI.out.1.1⟩
              have HFK := (show Hid _ from HF.out k (by omega))
              have HOX : Hid (O.getD (Z.getD k 0).toNat dopZ = o) := by show _ = _; rw [← HXN.out.2.2.2, HXN.out.2.2.1]; rfl
              have HOD : Hid (o.d.size ≤ 200000) := disk_small HDD.out o (by rw [HXN.out.2.2.1]; exact getD_mem (by have := HE.out; have := HXN.out; omega))
              have HSD : Hid (∀ f ∈ crF S O Z tt k, f.d.size + o.d.size ≤ 2000000000) := fun f hf => by have := tot_mem hf; have := HFK.out.2.2.2; have := HOD.out; omega
              have HST : Hid (∀ o', opAt O Z tt k = o' → crF S O Z tt (k + 1) = (doF (crF S O Z tt k) o').1) := fun o' e => by show (doF _ _).1 = _; rw [e]
              obtain ⟨n1, hn1⟩ : ∃ n1, n1 = nK - 1 := ⟨_, rfl⟩
              have hwK : IntKind.i64.wrap ((nK : Int) - 1) = (n1 : Int) := by rw [IntKind.wrap_i64]; omega
              have HN1 : Hid (n1 = nK - 1) := hn1
              have k0 : w8.cell? ⟨g, 0, none⟩ = some (.int .i64 o.k) := cellN hgh
              have k1 : w8.cell? ⟨g, 1, none⟩ = some (.string o.n) := cellN hgh
              have k2 : w8.cell? ⟨g, 2, none⟩ = some (.string o.t) := cellN hgh
              have k3 : w8.cell? ⟨g, 3, none⟩ = some (.string o.d) := cellN hgh
              clear hgh hB8 HI hn1 h11
              obtain ⟨lb, hlb⟩ : ∃ b : Bool, b = decide (k = n1) := ⟨_, rfl⟩
              have hlI : ((k : Int) == (n1 : Int)) = lb := by rw [hlb]; by_cases h : k = n1 <;> simp [h]; omega
              obtain ⟨kb, hkb⟩ : ∃ b : Bool, b = (o.k == 1) := ⟨_, rfl⟩
              obtain ⟨tb, htb⟩ : ∃ b : Bool, b = decide (tt < o.d.size) := ⟨_, rfl⟩
              have HLB : Hid (lb = decide (k = n1) ∧ kb = (o.k == 1) ∧ tb = decide (tt < o.d.size)) := ⟨hlb, hkb, htb⟩
              have htI : decide ((tt : Int) < (o.d.size : Int)) = tb := by rw [htb]; by_cases h : tt < o.d.size <;> simp [h]
              have hkI : (o.k == 1) = kb := hkb.symm
              clear hlb hkb htb
              cases lb with
              | false =>
                go_wp2_with fail
                refine (do_any u _ o w8 HU8.out (by have := HFK.out.2.2.1; omega) HSD.out).mono ?_
                rintro e w9 ⟨v9, rfl, hv9, hne9, hB9⟩
                have HV9 : Hid (HoldF w9 X.heap.size v9 (crF S O Z tt (k + 1))) := by rw [HST.out o (by unfold opAt; rw [HOX.out]; rw [if_neg (fun h => absurd HLB.out.1.symm (by have := HNK.out; have := HN1.out; simp; omega))])]; exact hv9.hold.base HB8.out.size
                have HB9 : Hid (Below X.heap.size X w9) := HB8.out.trans (hB9.mono HB8.out.size)
                clear hv9 hne9 hB9 k0 k1 k2 k3
                go_wp2
                exact ⟨⟨k + 1, _, by omega, by simp, rfl, HV9.out, HB9.out⟩, by simp [intOf]; omega⟩
              | true =>
                have HLA : Hid (k + 1 = Z.length) := by
                  show _ = _
                  have := HLB.out.1.symm
                  rw [decide_eq_true_eq] at this
                  have := HNK.out
                  have := HN1.out
                  omega
                cases kb with
                | false =>
                  go_wp2_with fail
                  refine (do_any u _ o w8 HU8.out (by have := HFK.out.2.2.1; omega) HSD.out).mono ?_
                  rintro e w9 ⟨v9, rfl, hv9, hne9, hB9⟩
                  have HV9 : Hid (HoldF w9 X.heap.size v9 (crF S O Z tt (k + 1))) := by rw [HST.out o (by unfold opAt; rw [HOX.out]; rw [if_pos HLA.out]; unfold tornO; rw [if_neg (fun h => absurd HLB.out.2.1.symm (by rw [h.1]; decide))])]; exact hv9.hold.base HB8.out.size
                  have HB9 : Hid (Below X.heap.size X w9) := HB8.out.trans (hB9.mono HB8.out.size)
                  clear hv9 hne9 hB9 k0 k1 k2 k3
                  go_wp2
                  exact ⟨⟨k + 1, _, by omega, by simp, rfl, HV9.out, HB9.out⟩, by simp [intOf]; omega⟩
                | true =>
                  have HK1 : Hid (o.k = 1) := by have := HLB.out.2.1.symm; exact eq_of_beq this
                  cases tb with
                  | false =>
                    have htP : ¬ (tt : Int) < (o.d.size : Int) := of_decide_eq_false htI
                    go_wp2_with fail
                    refine (do_any u _ o w8 HU8.out (by have := HFK.out.2.2.1; omega) HSD.out).mono ?_
                    rintro e w9 ⟨v9, rfl, hv9, hne9, hB9⟩
                    have HV9 : Hid (HoldF w9 X.heap.size v9 (crF S O Z tt (k + 1))) := by rw [HST.out o (by unfold opAt; rw [HOX.out]; rw [if_pos HLA.out]; unfold tornO; rw [if_neg (fun h => absurd HLB.out.2.2 (by rw [decide_eq_true h.2]; decide))])]; exact hv9.hold.base HB8.out.size
                    have HB9 : Hid (Below X.heap.size X w9) := HB8.out.trans (hB9.mono HB8.out.size)
                    clear hv9 hne9 hB9 k0 k1 k2 k3
                    go_wp2
                    exact ⟨⟨k + 1, _, by omega, by simp, rfl, HV9.out, HB9.out⟩, by simp [intOf]; omega⟩
                  | true =>
                    have htP : (tt : Int) < (o.d.size : Int) := of_decide_eq_true htI
                    have htQ : (tt : Int) ≤ (o.d.size : Int) := by omega
                    have htR : tt ≤ o.d.size := by omega
                    have kf : w8.frozen? ⟨g, 3, none⟩ = false := frozN HG8.out
                    obtain ⟨o2, ho2⟩ : ∃ o2 : Dop, o2 = ⟨o.k, o.n, o.t, o.d.extract 0 tt⟩ := ⟨_, rfl⟩
                    have HO2 : Hid (o2 = ⟨o.k, o.n, o.t, o.d.extract 0 tt⟩) := ho2
                    clear ho2
                    go_wp2_with fail
                    obtain ⟨wz, hwz⟩ : ∃ wz, wz = w8.setCell ⟨g, 3, none⟩ (.string (o.d.extract 0 tt)) := ⟨_, rfl⟩
                    have HBZ : Hid (Below wr.heap.size wr wz) := by show Below _ _ _; rw [hwz]; exact HWG.out.1.setCell HWG.out.2.1 _
                    have HXZ : Hid (Below X.heap.size X wz) := HBR2.out.trans (HBZ.out.mono HBR2.out.size)
                    rw [← hwz]
                    have h2z : o2.d.size ≤ o.d.size := by rw [HO2.out]; simp; omega
                    have hagg : Value.agg #[.int .i64 o.k, .string o.n, .string o.t, .string (o.d.extract 0 tt)] = .agg (encO o2) := by rw [HO2.out]; rfl
                    rw [hagg]
                    refine (do_any u _ o2 wz (HWG.out.2.2.below HBZ.out) (by have := HFK.out.2.2.1; omega) (fun f hf => by have := HSD.out f hf; omega)).mono ?_
                    rintro e w9 ⟨v9, rfl, hv9, hne9, hB9⟩
                    have HV9 : Hid (HoldF w9 X.heap.size v9 (crF S O Z tt (k + 1))) := by rw [HST.out o2 (by unfold opAt; rw [HOX.out]; rw [if_pos HLA.out]; unfold tornO; rw [if_pos ⟨HK1.out, by omega⟩, HO2.out])]; exact hv9.hold.base HXZ.out.size
                    have HB9 : Hid (Below X.heap.size X w9) := HXZ.out.trans (hB9.mono HXZ.out.size)
                    clear hv9 hne9 hB9 k0 k1 k2 k3 kf hwz hagg h2z
                    go_wp2
                    exact ⟨⟨k + 1, _, by omega, by simp, rfl, HV9.out, HB9.out⟩, by simp [intOf]; omega⟩
            · have hltI : ¬ (k : Int) < (nK : Int) := by omega
              have HFK := (show Hid _ from HF.out nK (Nat.le_refl _))
              have hkn : k = nK := by omega
              have HU : Hid (HoldF wr X.heap.size u (crF S O Z tt nK)) := by rw [← hkn]; exact HI.out.1
              obtain ⟨R, hR⟩ : ∃ R, R = crF S O Z tt nK := ⟨_, rfl⟩
              have HRR : Hid (R = crF S O Z tt nK) := hR
              rw [← hR] at HU HFK
              have HOK : Hid (crOk L S O Z (tt : Int) = filesB R) := by show _ = _; rw [HH.out, HPB.out, HRR.out, HNK.out]; rfl
              clear HI hkn hR
              go_wp2_with fail
              refine (files_any u R wr HU.out.1 (by have := HFK.out.2.2.2; omega) (fun j hj => by
                have := HFK.out.2.1 (R.getD j flZ) (by simp [hj])
                unfold nmB at this
                simp at this
                simp
                omega)).mono ?_
              rintro e w9 ⟨rfl, hB9⟩
              have HB9 : Hid (Below X.heap.size X w9) := HBR2.out.trans (hB9.mono HBR2.out.size)
              have HU9 : Hid (HoldF w9 X.heap.size u R) := HU.out.below hB9
              clear hB9
              have HR3 : Hid (At3 w9 (w.heap.size + 1) 30 (.slice none 0 0) (.slice none 0 0) (.slice none 0 0)) := (HG.out w9 HB9.out).2.1
              cases hf : filesB R with
              | false =>
                have HD : Hid (crOk L S O Z (tt : Int) = false) := by show _ = _; rw [HOK.out, hf]
                obtain ⟨q, hq, hi6, ho6, h16⟩ := row3 none none none 0 0 0 0 0 0
                clear hf
                go_wp2_with (refine wpList_store_row rfl 30 _ _ rfl (w.heap.size + 1) q rfl (congrArg Value.agg hq.symm) 30 _ HR3.out hi6 ho6 h16 ?_)
                subst hq
                refine bodyPost_ret (v := .tuple #[.agg #[.slice none 0 0, .slice none 0 0, .slice none 0 0], _]) (results_row_tmp rfl _ _ (w.heap.size + 1) 30 _ _ _ rfl (setRow_heap _ _ _ _ _ _ HR3.out) Try.underlying30 rfl hi6) rfl ⟨_, _, _, ret_val (by rw [HD.out]; rfl), ?_, ?_⟩
                · rw [cr_no HD.out]
                  exact ⟨(HoldF.nil _ 0).1, (HoldF.nil _ 0).1, (HoldO.nil _ 0).1⟩
                · exact below_setRow (HG.out w9 HB9.out).2.2 (by omega) _
              | true =>
                have HD : Hid (crOk L S O Z (tt : Int) = true ∧ crR L S O Z (tt : Int) = R) := by
                  have e : crOk L S O Z (tt : Int) = true := by rw [HOK.out, hf]
                  exact ⟨e, by rw [cr_yes e, HRR.out, ← HNK.out]; rfl⟩
                clear hf
                obtain ⟨au, cu, eu⟩ := HU9.out.1.slice
                obtain ⟨nR, hnR⟩ : ∃ n, n = R.length := ⟨_, rfl⟩
                rw [← hnR] at eu
                subst eu
                have HRL : Hid (R.length ≤ 1048576) := by show _ ≤ _; have := HFK.out.2.2.1; omega
                have HA9 : Hid (RdF (w9.alloc (.cells #[] 66)) (.slice au nR cu) R) := HU9.out.1.below ((Below.refl _ _).alloc (Nat.le_refl _) _)
                clear hnR
                go_wp2_with (
                  at_builtin
                  refine wpList_app0F rfl _ _ w9.heap.size w9.heap.size R rfl rfl (heap_alloc_new _ _) (Nat.le_refl _) HA9.out HRL.out ?_
                  intro nx wa hnx hBa
                  obtain ⟨ax, cx, ex⟩ := hnx.1.slice
                  obtain ⟨mR, hmR⟩ : ∃ n, n = R.length := ⟨_, rfl⟩
                  rw [← hmR] at ex
                  subst ex
                  have HBA9 : Hid (Below w9.heap.size w9 wa) := ((Below.refl _ _).alloc (Nat.le_refl _) _).trans (hBa.mono (by simp))
                  have HBA : Hid (Below X.heap.size X wa) := HB9.out.trans (HBA9.out.mono HB9.out.size)
                  have HNX : Hid (HoldF wa X.heap.size (.slice ax mR cx) R) := hnx.base HB9.out.size
                  have HUA : Hid (HoldF wa X.heap.size (.slice au nR cu) R) := HU9.out.below HBA9.out
                  clear hnx hBa hmR HR3
                  have HR3 : Hid (At3 wa (w.heap.size + 1) 30 (.slice none 0 0) (.slice none 0 0) (.slice none 0 0)) := (HG.out wa HBA.out).2.1
                  have HXS : Hid (w.heap.size + 1 < X.heap.size) := lt_of_block (HG.out X (Below.refl _ _)).2.1
                  obtain ⟨q, hq, hi6, ho6, h16⟩ := row3 au ax none nR cu mR cx 0 0
                  have HKQ : Hid (∀ v, HoldF wa X.heap.size v R → RdF (wa.setRow (w.heap.size + 1) q) v R) := fun v hv => (hv.kept (by simp [World.setRow]) (fun j hj _ => setRow_other _ _ _ _ (by have := HXS.out; omega))).1
                  refine wpList_build2 rfl _ _ rfl rfl rfl ?_
                  refine wpList_store_row rfl 30 _ _ rfl (w.heap.size + 1) q rfl (congrArg Value.agg hq.symm) 30 _ HR3.out hi6 ho6 h16 ?_)
                subst hq
                refine bodyPost_ret (v := .tuple #[.agg #[.slice au nR cu, .slice ax mR cx, .slice none 0 0], _]) (results_row_tmp rfl _ _ (w.heap.size + 1) 30 _ _ _ rfl (setRow_heap _ _ _ _ _ _ HR3.out) Try.underlying30 rfl hi6) rfl ⟨_, _, _, ret_val (by rw [HD.out.1]; rfl), ?_, ?_⟩
                · rw [HD.out.2]
                  exact ⟨HKQ.out _ HUA.out, HKQ.out _ HNX.out, (HoldO.nil _ 0).1⟩
                · exact below_setRow (HG.out wa HBA.out).2.2 (by omega) _
    · have HD : Hid (crOk L S O Z tn = false) := by show _ = _; unfold crOk; rw [hd, decide_eq_false h0]; rfl
      have HR3 : Hid (At3 w1 (w.heap.size + 1) 30 (.slice none 0 0) (.slice none 0 0) (.slice none 0 0)) := (HG.out w1 HB1.out).2.1
      have h0n : tn < 0 := by omega
      obtain ⟨q, hq, hi6, ho6, h16⟩ := row3 none none none 0 0 0 0 0 0
      clear hd
      go_wp2_with (refine wpList_store_row rfl 30 _ _ rfl (w.heap.size + 1) q rfl (congrArg Value.agg hq.symm) 30 _ HR3.out hi6 ho6 h16 ?_)
      subst hq
      refine bodyPost_ret (v := .tuple #[.agg #[.slice none 0 0, .slice none 0 0, .slice none 0 0], _]) (results_row_tmp rfl _ _ (w.heap.size + 1) 30 _ _ _ rfl (setRow_heap _ _ _ _ _ _ HR3.out) Try.underlying30 rfl hi6) rfl ⟨_, _, _, ret_val (by rw [HD.out]; rfl), ?_, ?_⟩
      · rw [cr_no HD.out]
        exact ⟨(HoldF.nil _ 0).1, (HoldF.nil _ 0).1, (HoldO.nil _ 0).1⟩
      · exact below_setRow (HG.out w1 HB1.out).2.2 (by omega) _
end Go.Proofs.Ytdlkokdhbffhpaa
