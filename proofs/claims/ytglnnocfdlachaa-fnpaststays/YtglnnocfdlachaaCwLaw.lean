/-
  The statement FnExactChainWithSaid: at every slice of events and every event the law returns true, and both read afterwards as they read before. No condition.
-/
import Derived.Test.YtglnnocfdlachaaSWith
import Derived.Test.YtglnnocfdlachaaCMark4
import Derived.Test.YtglnnocfdlachaaEVal
import Derived.Test.YtglnnocfdlachaaCkLaw
namespace Go.Proofs.Ytglnnocfdlachaa
open Go.ChangeShapes Go.WideShapes Go.ChangeAt Go.RowKit Go.Deep
set_option linter.unusedVariables false

/-- the list that ChainWith answers -/
def resW (A : List Ev) (x : Ev) : List Ev := if withB A x = true then putE A x else []
theorem GaveV.resW {w : World} {base : Nat} {A : List Ev} {x : Ev} {v : Value} (h : GaveV w base (withB A x) (putE A x) v) : OwnV w base v (resW A x) := by
  unfold Go.Proofs.Ytglnnocfdlachaa.resW
  rcases h with ⟨h, rfl⟩ | ⟨h, ho⟩
  · rw [h]; exact OwnV.nil _ _
  · rw [h]; exact ho
theorem resW_len (A : List Ev) (x : Ev) : (resW A x).length ≤ 60 := by
  unfold resW
  split
  · rename_i h
    unfold withB at h
    simp only [Bool.and_eq_true] at h
    have := chainL_len h.2.2.2.2
    omega
  · simp

section
variable (ev : Operand → Value) (o : Oper) (w : World)
theorem q_loadL (x : Operand) (k : Nat) (p q r s : Int) (h : o.op = .load 24 x) (hx : ev x = .pointer (some ⟨k, 0, none⟩)) (hb : w.heap[k]? = some (.cells #[.int .i64 p, .int .i64 q, .int .i64 r, .int .i64 s] 24 (0, 0))) : (execOp ev o).run Try.prog w = .ok (.value (.agg #[.int .i64 p, .int .i64 q, .int .i64 r, .int .i64 s])) w := by
  have e0 : w.cell? ⟨k, 0, none⟩ = some (.int .i64 p) := cellN hb
  have e1 : w.cell? ⟨k, 1, none⟩ = some (.int .i64 q) := cellN hb
  have e2 : w.cell? ⟨k, 2, none⟩ = some (.int .i64 r) := cellN hb
  have e3 : w.cell? ⟨k, 3, none⟩ = some (.int .i64 s) := cellN hb
  simp [execOp, h, hx]
  go_simp
theorem q_ext0 (x : Operand) (u v : Value) (h : o.op = .extract x 0) (hx : ev x = .tuple #[u, v]) : (execOp ev o).run Try.prog w = .ok (.value u) w := by
  simp [execOp, h, hx]
  go_simp
theorem q_ext1 (x : Operand) (u v : Value) (h : o.op = .extract x 1) (hx : ev x = .tuple #[u, v]) : (execOp ev o).run Try.prog w = .ok (.value v) w := by
  simp [execOp, h, hx]
  go_simp
end

/-- of the values of the regions that call ChainWith -/
def CF (a1 : Option Addr) (len1 cap1 : Nat) (A : List Ev) (x : Ev) (ok : Bool) (R : List Ev) (base : Nat) : Nat → Value → World → Prop
  | 0, v, _ => v = .slice a1 len1 cap1
  | 1, v, w => ∃ g p, v = .slice (some ⟨p, 0, none⟩) A.length A.length ∧ OwnE w g p A.length A
  | 2, v, _ => v = .agg #[.int .i64 x.a, .int .i64 x.b, .int .i64 x.c, .int .i64 x.d]
  | 3, v, _ => v = .agg #[.int .i64 x.a, .int .i64 x.b, .int .i64 x.c, .int .i64 x.d]
  | 4, v, w => ∃ u, v = .tuple #[u, .bool ok] ∧ OwnV w base u R
  | 5, v, w => ∃ u, v = .tuple #[u, .bool ok] ∧ OwnV w base u R
  | 6, v, w => OwnV w base v R
  | 7, v, _ => v = .bool ok
  | 8, v, w => OwnV w base v R
  | 9, v, _ => v = .bool ok
  | _, _, _ => True
theorem CF.below {a1 : Option Addr} {len1 cap1 : Nat} {A : List Ev} {x : Ev} {ok : Bool} {R : List Ev} {base j : Nat} {v : Value} {w w' : World} (h : CF a1 len1 cap1 A x ok R base j v w) (hB : Below w.heap.size w w') : CF a1 len1 cap1 A x ok R base j v w' := by
  match j, h with
  | 0, h => exact h
  | 1, ⟨g, p, h, ho⟩ => exact ⟨g, p, h, ho.below hB⟩
  | 2, h => exact h
  | 3, h => exact h
  | 4, ⟨u, h, ho⟩ => exact ⟨u, h, ho.below hB⟩
  | 5, ⟨u, h, ho⟩ => exact ⟨u, h, ho.below hB⟩
  | 6, h => exact OwnV.below h hB
  | 7, h => exact h
  | 8, h => exact OwnV.below h hB
  | 9, h => exact h
  | (n + 10), _ => trivial
def dsX : List Nat := [22, 23, 24, 25, 26, 21, 27, 28, 6, 7]
def slotX (j : Nat) : Nat := dsX.getD j 0
theorem slotX_inj (i j : Nat) (hi : i < 10) (hj : j < 10) (q : slotX i = slotX j) : i = j := by
  have h : ∀ i : Fin 10, ∀ j : Fin 10, slotX i.val = slotX j.val → i.val = j.val := by decide
  exact h ⟨i, hi⟩ ⟨j, hj⟩ q
def dsY : List Nat := [80, 81, 82, 83, 84, 79, 85, 86, 14, 15]
def slotY (j : Nat) : Nat := dsY.getD j 0
theorem slotY_inj (i j : Nat) (hi : i < 10) (hj : j < 10) (q : slotY i = slotY j) : i = j := by
  have h : ∀ i : Fin 10, ∀ j : Fin 10, slotY i.val = slotY j.val → i.val = j.val := by decide
  exact h ⟨i, hi⟩ ⟨j, hj⟩ q

set_option maxRecDepth 10000 in
set_option maxHeartbeats 4000000 in
theorem with_walk (a1 : Option Addr) (len1 cap1 : Nat) (D1 : Nat → Ev) (x : Ev) (w : World) (h1 : IsEvs w a1 len1 cap1 D1) :
    Calls Try.prog 3 #[.slice a1 len1 cap1, .agg #[.int .i64 x.a, .int .i64 x.b, .int .i64 x.c, .int .i64 x.d]] w fun e w' => e = .returned (.bool true) ∧ Below w.heap.size w w' := by
  have hcap1 : len1 ≤ 9223372036854775807 := Nat.le_trans h1.1 h1.2.1
  obtain ⟨X, hX⟩ : ∃ X, X = w.alloc (.cells #[.int .i64 x.a, .int .i64 x.b, .int .i64 x.c, .int .i64 x.d] 24) := ⟨_, rfl⟩
  have hBX : Below w.heap.size w X := by rw [hX]; exact (Below.refl _ _).alloc (Nat.le_refl _) _
  have gX : X.heap[w.heap.size]? = some (.cells #[.int .i64 x.a, .int .i64 x.b, .int .i64 x.c, .int .i64 x.d] 24 (0, 0)) := by rw [hX]; exact heap_alloc_new _ _
  have sX : w.heap.size < X.heap.size := lt_of_block gX
  have HG : Hid (∀ w', Below X.heap.size X w' → w'.heap[w.heap.size]? = some (.cells #[.int .i64 x.a, .int .i64 x.b, .int .i64 x.c, .int .i64 x.d] 24 (0, 0))) := fun w' hB => (hB.block _ sX).trans gX
  have HB : Hid (∀ w', Below X.heap.size X w' → Below w.heap.size w w') := fun w' hB => hBX.trans (hB.mono hBX.size)
  have HXE := (show Hid _ from hX)
  have h1X : IsEvs X a1 len1 cap1 D1 := h1.below hBX
  have HI := (show Hid _ from h1X)
  clear hX h1 h1X gX hBX
  have en1 : ∀ args w, (callFunc 7 args).run Try.prog w = .ok (.enter 7 args) w := enters_of Try.func7 (by kernel_rfl) rfl
  have en2 : ∀ args w, (callFunc 8 args).run Try.prog w = .ok (.enter 8 args) w := enters_of Try.func8 (by kernel_rfl) rfl
  have en3 : ∀ args w, (callFunc 6 args).run Try.prog w = .ok (.enter 6 args) w := enters_of Try.func6 (by kernel_rfl) rfl
  have en4 : ∀ args w, (callFunc 9 args).run Try.prog w = .ok (.enter 9 args) w := enters_of Try.func9 (by kernel_rfl) rfl
  have HEN := (show Hid _ from (And.intro en1 (And.intro en2 (And.intro en3 en4))))
  clear en1 en2 en3 en4
  go_enter Try.func3, Try.ntmps3
  go_wp2_with fail
  rw [← HXE.out]
  refine (szEvs_any a1 len1 cap1 _ X hcap1 (by omega) (by omega)).mono ?_
  rintro e w' ⟨r, rfl, hr, hw⟩
  rw [hw]; clear hw w' HXE
  rcases hr with hr | ⟨hr, hr1, hl1⟩
  · have HE := (show Hid _ from HB.out X (Below.refl _ _))
    go_wp2
    go_ret
    exact ⟨rfl, HE.out⟩
  obtain ⟨A, hA⟩ : ∃ A, A = listD D1 len1 := ⟨_, rfl⟩
  have hAl : A.length ≤ 1048576 := by rw [hA, listD_len]; exact hl1
  have TA : Hid (∀ w', Below X.heap.size X w' → Calls Try.prog 7 #[.slice a1 len1 cap1] w' fun e w'' => e = .returned (.slice (some ⟨w'.heap.size, 0, none⟩) A.length A.length) ∧ OwnE w'' w'.heap.size w'.heap.size A.length A ∧ Below w'.heap.size w' w'') := fun w' hB' => toL_any a1 len1 cap1 D1 A hA w' (IsEvs.below HI.out hB') hl1
  obtain ⟨R, hR⟩ : ∃ R, R = resW A x := ⟨_, rfl⟩
  obtain ⟨ok, hok⟩ : ∃ ok, ok = withB A x := ⟨_, rfl⟩
  have hRl : R.length ≤ 60 := by rw [hR]; exact resW_len A x
  have TS : Hid (∀ g p w', OwnE w' g p A.length A → Calls Try.prog 6 #[.slice (some ⟨p, 0, none⟩) A.length A.length, .agg #[.int .i64 x.a, .int .i64 x.b, .int .i64 x.c, .int .i64 x.d]] w' fun r w'' => ∃ v, r = .returned (.tuple #[v, .bool ok]) ∧ OwnV w'' w'.heap.size v R ∧ Below w'.heap.size w' w'') := fun g p w' o => by
    rw [hok, hR]
    refine (specWith_any _ 0 _ A x w' o.lies.1 o.lies.2.1 o.caps.1 o.caps.2).mono ?_
    rintro e w'' ⟨v, rfl, hv, hB⟩
    exact ⟨v, rfl, hv.resW, hB⟩
  have TI : Hid (∀ g p w', OwnE w' g p A.length A → Calls Try.prog 9 #[.slice (some ⟨p, 0, none⟩) A.length A.length, .agg #[.int .i64 x.a, .int .i64 x.b, .int .i64 x.c, .int .i64 x.d]] w' fun r w'' => ∃ v, r = .returned (.tuple #[v, .bool ok]) ∧ OwnV w'' w'.heap.size v R ∧ Below w'.heap.size w' w'') := fun g p w' o => by
    rw [hok, hR]
    refine (implWith_any _ 0 _ A x w' o.lies.1 o.lies.2.1 o.caps.1 o.caps.2).mono ?_
    rintro e w'' ⟨v, rfl, hv, hB⟩
    exact ⟨v, rfl, hv.resW, hB⟩
  have hokn : (ok != ok) = false := by simp
  clear hA hR hok HI
  go_wp2
  refine wp_cut_at (fun a0 t w' => ∃ f, t = canon a0 dsX f ∧ OwnV w' X.heap.size (f 6) R ∧ f 7 = .bool ok ∧ Below X.heap.size X w') ?_ ?_
  rotate_left
  · skip
    intro J K' hJ hK
    refine wp_letter ?_
    intro fr hfr
    have hs : 28 < fr.tmps.size := by rw [hfr]; exact Nat.le_of_ble_eq_true rfl
    have t0 : fr.eval (.tmp 0) = .slice a1 len1 cap1 := by rw [hfr]; rfl
    have t3 : fr.eval (.tmp 3) = .pointer (some ⟨w.heap.size, 0, none⟩) := by rw [hfr]; rfl
    have HFR := (show Hid _ from hfr)
    clear hfr
    refine wp_region_skips (by kernel_rfl) (by kernel_rfl) dsX slotX (CF a1 len1 cap1 A x ok R X.heap.size) (fun _ _ _ _ h hB => h.below hB) ?_ ?_ ?_ ?_
    · intro i hi
      have hi' : i < 10 := hi
      rcases (by omega : i = 0 ∨ i = 1 ∨ i = 2 ∨ i = 3 ∨ i = 4 ∨ i = 5 ∨ i = 6 ∨ i = 7 ∨ i = 8 ∨ i = 9) with rfl | rfl | rfl | rfl | rfl | rfl | rfl | rfl | rfl | rfl <;> decide
    · intro i j hi hj q
      exact slotX_inj i j hi hj q
    · intro ops hops f wy i o hy ho hd
      have ho2 := ho
      rw [hops] at ho
      have N0 := (canon_eval_ne fr dsX f 0 (by decide)).trans t0
      have N3 := (canon_eval_ne fr dsX f 3 (by decide)).trans t3
      have hi : i < 10 := by
        rcases Nat.lt_or_ge i 10 with h | h
        · exact h
        · rw [Array.getElem?_eq_none (by simpa using h)] at ho; cases ho
      have hi' : i = 0 ∨ i = 1 ∨ i = 2 ∨ i = 3 ∨ i = 4 ∨ i = 5 ∨ i = 6 ∨ i = 7 ∨ i = 8 ∨ i = 9 := by omega
      clear hops
      rcases hi' with rfl | rfl | rfl | rfl | rfl | rfl | rfl | rfl | rfl | rfl <;> simp only [List.getElem?_toArray, List.getElem?_cons_succ, List.getElem?_cons_zero, Option.some.injEq] at ho <;> subst ho
      · refine wpOp_runG ho2 (wanted_none rfl) (q_move (canon fr dsX f).eval _ wy _ rfl) ?_
        exact ⟨_, rfl, N0, Below.refl _ _⟩
      · refine wpOp_enterG ho2 (wanted_none rfl) (q_call1 (canon fr dsX f).eval _ wy _ HEN.out.1 _ _ rfl rfl) ?_
        rw [(canon_eval fr dsX f 22 (by decide) (Nat.lt_of_le_of_lt (by decide) hs)).trans (hd ⟨0, .data⟩ (by simp) rfl)]
        refine (TA.out wy ((fun _ h => h) wy hy)).mono ?_
        rintro e wz ⟨rfl, hz, hBz⟩
        exact ⟨_, rfl, _, rfl, ⟨_, _, rfl, hz⟩, hBz⟩
      · refine wpOp_runG ho2 (wanted_none rfl) (q_loadL (canon fr dsX f).eval _ wy _ w.heap.size x.a x.b x.c x.d rfl N3 (HG.out wy ((fun _ h => h) wy hy))) ?_
        exact ⟨_, rfl, rfl, Below.refl _ _⟩
      · refine wpOp_enterG ho2 (wanted_none rfl) (q_call1 (canon fr dsX f).eval _ wy _ HEN.out.2.1 _ _ rfl rfl) ?_
        rw [(canon_eval fr dsX f 24 (by decide) (Nat.lt_of_le_of_lt (by decide) hs)).trans (hd ⟨2, .data⟩ (by simp) rfl)]
        refine (toEv_any x wy).mono ?_
        rintro e wz ⟨rfl, hBz⟩
        exact ⟨_, rfl, _, rfl, rfl, hBz⟩
      · obtain ⟨g, p, hp, hl⟩ := hd ⟨1, .data⟩ (by simp) rfl
        refine wpOp_enterG ho2 (wanted_none rfl) (q_call2 (canon fr dsX f).eval _ wy _ HEN.out.2.2.1 _ _ _ rfl rfl) ?_
        rw [(canon_eval fr dsX f 23 (by decide) (Nat.lt_of_le_of_lt (by decide) hs)).trans hp, (canon_eval fr dsX f 25 (by decide) (Nat.lt_of_le_of_lt (by decide) hs)).trans (hd ⟨3, .data⟩ (by simp) rfl)]
        refine (TS.out _ _ wy hl).mono ?_
        rintro e wz ⟨v, rfl, hv, hBz⟩
        exact ⟨_, rfl, _, rfl, ⟨v, rfl, hv.base hy.size⟩, hBz⟩
      · refine wpOp_runG ho2 (wanted_none rfl) (q_move (canon fr dsX f).eval _ wy _ rfl) ?_
        obtain ⟨v, hv, ho⟩ := hd ⟨4, .data⟩ (by simp) rfl
        exact ⟨_, rfl, ⟨v, (canon_eval fr dsX f 26 (by decide) (Nat.lt_of_le_of_lt (by decide) hs)).trans hv, ho⟩, Below.refl _ _⟩
      · obtain ⟨v, hv, ho⟩ := hd ⟨5, .data⟩ (by simp) rfl
        refine wpOp_runG ho2 (wanted_none rfl) (q_ext0 (canon fr dsX f).eval _ wy _ v _ rfl ((canon_eval fr dsX f 21 (by decide) (Nat.lt_of_le_of_lt (by decide) hs)).trans hv)) ?_
        exact ⟨_, rfl, ho, Below.refl _ _⟩
      · obtain ⟨v, hv, ho⟩ := hd ⟨5, .data⟩ (by simp) rfl
        refine wpOp_runG ho2 (wanted_none rfl) (q_ext1 (canon fr dsX f).eval _ wy _ v _ rfl ((canon_eval fr dsX f 21 (by decide) (Nat.lt_of_le_of_lt (by decide) hs)).trans hv)) ?_
        exact ⟨_, rfl, rfl, Below.refl _ _⟩
      · refine wpOp_runG ho2 (wanted_none rfl) (q_assign (canon fr dsX f).eval _ wy _ rfl) ?_
        refine ⟨_, rfl, ?_, Below.refl _ _⟩
        show OwnV _ _ _ _
        rw [(canon_eval fr dsX f 27 (by decide) (Nat.lt_of_le_of_lt (by decide) hs))]
        exact hd ⟨6, .data⟩ (by simp) rfl
      · refine wpOp_runG ho2 (wanted_none rfl) (q_assign (canon fr dsX f).eval _ wy _ rfl) ?_
        exact ⟨_, rfl, (canon_eval fr dsX f 28 (by decide) (Nat.lt_of_le_of_lt (by decide) hs)).trans (hd ⟨7, .data⟩ (by simp) rfl), Below.refl _ _⟩
    · intro f wy hy hall
      exact hK _ _ (Met.intro (hJ _ _ ⟨f, congrArg (fun z => canon z dsX f) HFR.out, hall 8 (by decide), hall 9 (by decide), hy⟩))
  rintro _ w2 ⟨f, rfl, q2, h7, b2⟩
  simp only [canon, dsX, List.foldl, Act.put, List.setIfInBounds_toArray, List.set_cons_succ, List.set_cons_zero]
  rw [h7]
  generalize f 6 = vw at q2 ⊢
  generalize f 21 = u21
  generalize f 22 = u22
  generalize f 23 = u23
  generalize f 24 = u24
  generalize f 25 = u25
  generalize f 26 = u26
  generalize f 27 = u27
  generalize f 28 = u28
  clear f h7
  have ql : ∀ k, vw.ownBlock = some k → k < w2.heap.size := fun k hk => (World.ownsRow.lt q2 k hk).2
  have HQL := (show Hid _ from ql)
  have HQ2 := (show Hid _ from q2)
  have HB2 := (show Hid _ from b2)
  clear ql q2 b2
  go_wp2_with fail
  refine (TA.out w2 HB2.out).mono ?_
  rintro e w3 ⟨rfl, o3, hB3⟩
  have b3 : Below X.heap.size X w3 := HB2.out.trans (hB3.mono HB2.out.size)
  have q3 := OwnV.below HQ2.out hB3
  have s3 : w2.heap.size < w3.heap.size := o3.lies.2.1
  have H3 : Hid (OwnE w3 w2.heap.size w2.heap.size A.length A ∧ OwnV w3 X.heap.size vw R ∧ Below X.heap.size X w3 ∧ w2.heap.size < w3.heap.size) := ⟨o3, q3, b3, s3⟩
  have g3 := HG.out w3 b3
  have c0 : w3.cell? ⟨w.heap.size, 0, none⟩ = some (.int .i64 x.a) := cellN g3
  have c1 : w3.cell? ⟨w.heap.size, 1, none⟩ = some (.int .i64 x.b) := cellN g3
  have c2 : w3.cell? ⟨w.heap.size, 2, none⟩ = some (.int .i64 x.c) := cellN g3
  have c3 : w3.cell? ⟨w.heap.size, 3, none⟩ = some (.int .i64 x.d) := cellN g3
  clear o3 hB3 b3 q3 s3 g3 HQ2
  go_wp2_with fail
  refine (toEv_any x w3).mono ?_
  rintro e w4 ⟨rfl, hB4⟩
  have H4 : Hid (OwnE w4 w2.heap.size w2.heap.size A.length A ∧ OwnV w4 X.heap.size vw R ∧ Below X.heap.size X w4 ∧ w2.heap.size < w4.heap.size) := by
    obtain ⟨i1, i2, i3, i4⟩ := H3.out
    exact ⟨i1.below hB4, i2.below hB4, i3.trans (hB4.mono i3.size), Nat.lt_of_lt_of_le i4 hB4.size⟩
  clear H3 hB4 c0 c1 c2 c3
  go_wp2_with fail
  refine (TI.out _ _ w4 H4.out.1).mono ?_
  rintro e w5 ⟨vg, rfl, g5, hB5⟩
  obtain ⟨o4, q4, b4, s4⟩ := H4.out
  have b7 : Below X.heap.size X w5 := b4.trans (hB5.mono b4.size)
  have q7 := q4.below hB5
  have p7 := o4.below hB5
  have g7 := g5
  have s4' := Nat.lt_of_lt_of_le s4 hB5.size
  have gl : ∀ k, vg.ownBlock = some k → w4.heap.size ≤ k := fun k hk => (World.ownsRow.lt g7 k hk).1
  have HGL := (show Hid _ from gl)
  have HS4 : Hid (w2.heap.size < w4.heap.size ∧ X.heap.size ≤ w2.heap.size) := ⟨s4, HB2.out.size⟩
  clear o4 q4 b4 s4 s4' hB5 g5 gl H4
  go_wp2_with fail
  refine (eqV_same _ _ _ _ _ _ g7 q7).mono ?_
  rintro e w8 ⟨rfl, hB8⟩
  have b8 : Below X.heap.size X w8 := b7.trans (hB8.mono b7.size)
  have q8 := q7.below hB8
  have p8 := p7.below hB8
  have g8 := g7.below hB8
  clear q7 p7 g7 hB8 b7
  go_wp2_with fail
  refine (TA.out w8 b8).mono ?_
  rintro e w9 ⟨rfl, x9, hB9⟩
  go_wp2_with fail
  refine (eqV_same _ _ _ _ _ _ (p8.below hB9).v x9.v).mono ?_
  rintro e w10 ⟨rfl, hB10⟩
  have hB810 : Below w8.heap.size w8 w10 := hB9.trans (hB10.mono hB9.size)
  have b12 : Below X.heap.size X w10 := b8.trans (hB810.mono b8.size)
  have q12 := q8.below hB810
  have p12 := p8.below hB810
  have g12 := g8.below hB810
  clear q8 p8 g8 hB9 hB10 hB810 x9 b8
  go_wp2_with fail
  refine (markEvs_any _ _ A 1 w10 p12.v hAl (by omega)).mono ?_
  rintro e w13 ⟨rfl, _, hG13⟩
  have b14 := b12.grown hG13 b12.size (fun k hk => by have hk' : some w2.heap.size = some k := hk; cases hk'; exact HS4.out.2)
  have g14 := g12.kept hG13 (fun k hk e => by have h1 := HGL.out k hk; have h2 := HS4.out.1; have e' : some k = some w2.heap.size := e; cases e'; omega)
  have q14 := q12.kept hG13 (fun k hk e => by have := HQL.out k hk; have e' : some k = some w2.heap.size := e; cases e'; omega)
  clear p12 g12 q12 hG13 b12
  have hk14 : decide (((1 + A.length * 4 : Nat) : Int) < 0) = false := decide_eq_false (by omega)
  go_wp2_with fail
  refine (eqV_same _ _ _ _ _ _ g14 q14).mono ?_
  rintro e w15 ⟨rfl, hB15⟩
  have b15 := b14.trans (hB15.mono b14.size)
  have g15 := g14.below hB15
  have q15 := q14.below hB15
  clear g14 q14 hB15 b14
  go_wp2_with fail
  refine (markEvs_any _ _ _ 1 w15 g15 (by omega) (by omega)).mono ?_
  rintro e w16 ⟨rfl, m16, hG16⟩
  have b16 := b15.grown hG16 b15.size (fun k hk => by have h1 := HGL.out k hk; have h2 := HS4.out; omega)
  have q16 := q15.kept hG16 (fun k hk e => by have h1 := HQL.out k hk; have h2 := HGL.out k e.symm; have h3 := HS4.out; omega)
  clear g15 q15 hG16 b15
  have hq1 : decide (((1 + R.length * 4 : Nat) : Int) < 0) = false := decide_eq_false (by omega)
  have hq2 : (((1 + R.length * 4 : Nat) : Int) != ((1 + R.length * 4 : Nat) : Int)) = false := by simp
  go_wp2_with fail
  refine (heldEvs_any _ _ 1 R.length w16 m16 (by omega) (by omega)).mono ?_
  rintro e w' ⟨rfl, hw⟩
  rw [hw]; clear hw w'
  have H16 : Hid (∀ w', Below w16.heap.size w16 w' → Below X.heap.size X w' ∧ OwnV w' X.heap.size vw R ∧ OwnV w' w4.heap.size vg (markL 1 R.length)) := fun w' hB => ⟨b16.trans (hB.mono b16.size), q16.below hB, m16.below hB⟩
  have H16B : Hid (∀ w', Below w16.heap.size w16 w' → Below X.heap.size X w') := fun w' hB => b16.trans (hB.mono b16.size)
  clear b16 q16 m16
  go_wp2
  refine wp_cut_at (fun a0 t w' => ∃ f, t = canon a0 dsY f ∧ OwnV w' w16.heap.size (f 14) R ∧ f 15 = .bool ok ∧ Below w16.heap.size w16 w') ?_ ?_
  rotate_left
  · skip
    intro J K' hJ hK
    refine wp_letter ?_
    intro fr hfr
    have hs : 86 < fr.tmps.size := by rw [hfr]; exact Nat.le_of_ble_eq_true rfl
    have t0 : fr.eval (.tmp 0) = .slice a1 len1 cap1 := by rw [hfr]; rfl
    have t3 : fr.eval (.tmp 3) = .pointer (some ⟨w.heap.size, 0, none⟩) := by rw [hfr]; rfl
    have HFR := (show Hid _ from hfr)
    clear hfr
    refine wp_region_skips (by kernel_rfl) (by kernel_rfl) dsY slotY (CF a1 len1 cap1 A x ok R w16.heap.size) (fun _ _ _ _ h hB => h.below hB) ?_ ?_ ?_ ?_
    · intro i hi
      have hi' : i < 10 := hi
      rcases (by omega : i = 0 ∨ i = 1 ∨ i = 2 ∨ i = 3 ∨ i = 4 ∨ i = 5 ∨ i = 6 ∨ i = 7 ∨ i = 8 ∨ i = 9) with rfl | rfl | rfl | rfl | rfl | rfl | rfl | rfl | rfl | rfl <;> decide
    · intro i j hi hj q
      exact slotY_inj i j hi hj q
    · intro ops hops f wy i o hy ho hd
      have ho2 := ho
      rw [hops] at ho
      have N0 := (canon_eval_ne fr dsY f 0 (by decide)).trans t0
      have N3 := (canon_eval_ne fr dsY f 3 (by decide)).trans t3
      have hi : i < 10 := by
        rcases Nat.lt_or_ge i 10 with h | h
        · exact h
        · rw [Array.getElem?_eq_none (by simpa using h)] at ho; cases ho
      have hi' : i = 0 ∨ i = 1 ∨ i = 2 ∨ i = 3 ∨ i = 4 ∨ i = 5 ∨ i = 6 ∨ i = 7 ∨ i = 8 ∨ i = 9 := by omega
      clear hops
      rcases hi' with rfl | rfl | rfl | rfl | rfl | rfl | rfl | rfl | rfl | rfl <;> simp only [List.getElem?_toArray, List.getElem?_cons_succ, List.getElem?_cons_zero, Option.some.injEq] at ho <;> subst ho
      · refine wpOp_runG ho2 (wanted_none rfl) (q_move (canon fr dsY f).eval _ wy _ rfl) ?_
        exact ⟨_, rfl, N0, Below.refl _ _⟩
      · refine wpOp_enterG ho2 (wanted_none rfl) (q_call1 (canon fr dsY f).eval _ wy _ HEN.out.1 _ _ rfl rfl) ?_
        rw [(canon_eval fr dsY f 80 (by decide) (Nat.lt_of_le_of_lt (by decide) hs)).trans (hd ⟨0, .data⟩ (by simp) rfl)]
        refine (TA.out wy (H16B.out wy hy)).mono ?_
        rintro e wz ⟨rfl, hz, hBz⟩
        exact ⟨_, rfl, _, rfl, ⟨_, _, rfl, hz⟩, hBz⟩
      · refine wpOp_runG ho2 (wanted_none rfl) (q_loadL (canon fr dsY f).eval _ wy _ w.heap.size x.a x.b x.c x.d rfl N3 (HG.out wy (H16B.out wy hy))) ?_
        exact ⟨_, rfl, rfl, Below.refl _ _⟩
      · refine wpOp_enterG ho2 (wanted_none rfl) (q_call1 (canon fr dsY f).eval _ wy _ HEN.out.2.1 _ _ rfl rfl) ?_
        rw [(canon_eval fr dsY f 82 (by decide) (Nat.lt_of_le_of_lt (by decide) hs)).trans (hd ⟨2, .data⟩ (by simp) rfl)]
        refine (toEv_any x wy).mono ?_
        rintro e wz ⟨rfl, hBz⟩
        exact ⟨_, rfl, _, rfl, rfl, hBz⟩
      · obtain ⟨g, p, hp, hl⟩ := hd ⟨1, .data⟩ (by simp) rfl
        refine wpOp_enterG ho2 (wanted_none rfl) (q_call2 (canon fr dsY f).eval _ wy _ HEN.out.2.2.2 _ _ _ rfl rfl) ?_
        rw [(canon_eval fr dsY f 81 (by decide) (Nat.lt_of_le_of_lt (by decide) hs)).trans hp, (canon_eval fr dsY f 83 (by decide) (Nat.lt_of_le_of_lt (by decide) hs)).trans (hd ⟨3, .data⟩ (by simp) rfl)]
        refine (TI.out _ _ wy hl).mono ?_
        rintro e wz ⟨v, rfl, hv, hBz⟩
        exact ⟨_, rfl, _, rfl, ⟨v, rfl, hv.base hy.size⟩, hBz⟩
      · refine wpOp_runG ho2 (wanted_none rfl) (q_move (canon fr dsY f).eval _ wy _ rfl) ?_
        obtain ⟨v, hv, ho⟩ := hd ⟨4, .data⟩ (by simp) rfl
        exact ⟨_, rfl, ⟨v, (canon_eval fr dsY f 84 (by decide) (Nat.lt_of_le_of_lt (by decide) hs)).trans hv, ho⟩, Below.refl _ _⟩
      · obtain ⟨v, hv, ho⟩ := hd ⟨5, .data⟩ (by simp) rfl
        refine wpOp_runG ho2 (wanted_none rfl) (q_ext0 (canon fr dsY f).eval _ wy _ v _ rfl ((canon_eval fr dsY f 79 (by decide) (Nat.lt_of_le_of_lt (by decide) hs)).trans hv)) ?_
        exact ⟨_, rfl, ho, Below.refl _ _⟩
      · obtain ⟨v, hv, ho⟩ := hd ⟨5, .data⟩ (by simp) rfl
        refine wpOp_runG ho2 (wanted_none rfl) (q_ext1 (canon fr dsY f).eval _ wy _ v _ rfl ((canon_eval fr dsY f 79 (by decide) (Nat.lt_of_le_of_lt (by decide) hs)).trans hv)) ?_
        exact ⟨_, rfl, rfl, Below.refl _ _⟩
      · refine wpOp_runG ho2 (wanted_none rfl) (q_assign (canon fr dsY f).eval _ wy _ rfl) ?_
        refine ⟨_, rfl, ?_, Below.refl _ _⟩
        show OwnV _ _ _ _
        rw [(canon_eval fr dsY f 85 (by decide) (Nat.lt_of_le_of_lt (by decide) hs))]
        exact hd ⟨6, .data⟩ (by simp) rfl
      · refine wpOp_runG ho2 (wanted_none rfl) (q_assign (canon fr dsY f).eval _ wy _ rfl) ?_
        exact ⟨_, rfl, (canon_eval fr dsY f 86 (by decide) (Nat.lt_of_le_of_lt (by decide) hs)).trans (hd ⟨7, .data⟩ (by simp) rfl), Below.refl _ _⟩
    · intro f wy hy hall
      exact hK _ _ (Met.intro (hJ _ _ ⟨f, congrArg (fun z => canon z dsY f) HFR.out, hall 8 (by decide), hall 9 (by decide), hy⟩))
  rintro _ w19 ⟨f, rfl, g19, h15, b19⟩
  simp only [canon, dsY, List.foldl, Act.put, List.setIfInBounds_toArray, List.set_cons_succ, List.set_cons_zero]
  rw [h15]
  generalize f 14 = vh at g19 ⊢
  generalize f 79 = u79
  generalize f 80 = u80
  generalize f 81 = u81
  generalize f 82 = u82
  generalize f 83 = u83
  generalize f 84 = u84
  generalize f 85 = u85
  generalize f 86 = u86
  clear f h15
  obtain ⟨b20, q20, m20⟩ := H16.out w19 b19
  have HB19 := (show Hid _ from b19)
  clear b19
  go_wp2_with fail
  refine (eqV_same _ _ _ _ _ _ g19 q20).mono ?_
  rintro e w20 ⟨rfl, hB20⟩
  have m21 := m20.below hB20
  have HBE : Hid (Below w.heap.size w w20) := HB.out w20 (b20.trans (hB20.mono b20.size))
  clear g19 q20 m20 hB20 b20 HB19
  go_wp2_with fail
  refine (heldEvs_any _ _ 1 R.length w20 m21 (by omega) (by omega)).mono ?_
  rintro e w' ⟨rfl, hw⟩
  rw [hw]; clear hw w' m21
  go_wp2
  go_ret
  exact ⟨rfl, HBE.out⟩

set_option maxRecDepth 100000 in
theorem with_lifted (os : Os) (started : os.Started) (H : Type) (enc : TypeId × Value → H) :
    ReturnsInHanded {} Try.checked os 3 .any (Rows.fnExactChainWithSpec.pre6 enc Try.prog Try.f3 Rows.fnExactChainWithRow.domain false) (Rows.fnExactChainWithSpec.post enc Try.prog Try.f3 false true false false) := by
  refine returnsInHanded_of_change (C := Try.checked) own started (by kernel_rfl) Try.func3
    (ChangeSpec.witness6 (enc := enc) (C := Try.checked) false ⟨#[], #[.slice none 0 0, .agg #[.int .i64 0, .int .i64 0, .int .i64 0, .int .i64 0]], []⟩ 8 (by kernel_rfl) (by kernel_rfl) (by kernel_rfl) (by kernel_rfl)) ?_
  intro W base args ds gs before hval0 hW hcnd _
  have hval : ∀ (j : Nat) t v, Try.f3.params[j]? = some t → args[j]? = some v → Value.okWide Try.prog W .any base t v := hval0
  have hW' := hW
  obtain ⟨p, q, hA0, hV, rfl, hfz, hnd⟩ := hW
  have hA : DataW.TrodAll enc Try.prog W 0 (fun _ => true) true Try.f3.params.toList args.toList ds p := hA0
  rw [Try.params3] at hA hval
  obtain ⟨v0, vs0, d0, ds0, p0, q0, hargs, rfl, rfl, h0, r0⟩ := trodAll_cons hA
  obtain ⟨v1, vs1, d1, ds1, p1, q1, rfl, rfl, rfl, h1, r1⟩ := trodAll_cons r0
  obtain ⟨rfl, rfl, rfl⟩ := trodAll_nil r1
  obtain rfl : args = #[v0, v1] := by cases args; simp_all
  obtain ⟨rfl, rfl⟩ := trodVars_none hV
  obtain ⟨a0, len0, cap0, rfl⟩ := okWide_slice Try.underlying22 (hval 0 22 v0 rfl rfl)
  obtain ⟨cs1, rfl, _⟩ := okWide_struct Try.underlying24 (hval 1 24 v1 rfl rfl)
  have k0 := h0
  have k1 := h1
  have lt0 : ∀ x ∈ p0, x.block < W.heap.size := by obtain ⟨m, hm⟩ := k0; exact DataW.trod_lt m _ _ _ hm
  have lt1 : ∀ x ∈ p1, x.block < W.heap.size := by obtain ⟨m, hm⟩ := k1; exact DataW.trod_lt m _ _ _ hm
  obtain ⟨D, w0⟩ : ∃ D, IsEvs W a0 len0 cap0 D := by
    obtain ⟨fuel, hf⟩ := h0
    obtain ⟨a, len, cap, D, e, hI, _⟩ := open_evs (by simpa [Value.cells] using hf)
    simp at e
    obtain ⟨rfl, rfl, rfl⟩ := e
    exact ⟨D, hI⟩
  obtain ⟨y, hy⟩ : ∃ y : Ev, cs1 = #[.int .i64 y.a, .int .i64 y.b, .int .i64 y.c, .int .i64 y.d] := by
    obtain ⟨fuel, hf⟩ := h1
    obtain ⟨y, hy, _⟩ := open_ev (by simpa [Value.cells] using hf)
    exact ⟨y, hy⟩
  subst hy
  clear hA0 hval0
  refine (with_walk a0 len0 cap0 D y W w0).mono fun e W' ⟨he, bel⟩ => ?_
  subst he
  exact ⟨_, rfl, _, _, _, [], _, [], hW', trodAll_mk1 (shut_bool Try.underlying4 _), (trodAll_cons_mk (Below.trod laidOut (by kernel_rfl) (of_decide_eq_true (by kernel_rfl)) k0 bel lt0) (trodAll_cons_mk (Below.trod laidOut (by kernel_rfl) (of_decide_eq_true (by kernel_rfl)) k1 bel lt1) trodAll_mk0)), rfl, bel.frame _, fun h => by cases h⟩

theorem with_proved : Rows.FnExactChainWithSaid :=
  OpenClaim.holds_of_wide 3 Try.f3 rfl rfl rfl rfl rfl rfl rfl ⟨rfl, rfl, rfl, rfl, rfl⟩ rfl rfl rfl rfl rfl (by kernel_rfl) Try.func3 (by kernel_rfl)
    (of_decide_eq_true (by kernel_rfl)) (by unfold Func.isWrapper; first | (rw [if_pos (by decide +kernel)]; kernel_rfl) | (rw [if_neg (by decide +kernel)]; exact ⟨rfl, rfl⟩))
    (fun os started H enc _ => with_lifted os started H enc)
#print axioms with_proved
end Go.Proofs.Ytglnnocfdlachaa
