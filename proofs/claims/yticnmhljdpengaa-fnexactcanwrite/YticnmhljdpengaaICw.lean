/-
  The statement FnExactCanWriteSaid: at every slice of events and every two numbers the law returns true, and the slice reads afterwards as it read before. No condition.
-/
import Derived.Test.YticnmhljdpengaaIRLaw
namespace Go.Proofs.Yticnmhljdpengaa
open Go.ChangeShapes Go.WideShapes Go.ChangeAt Go.RowKit Go.Deep
set_option linter.unusedVariables false

set_option maxHeartbeats 1000000 in
theorem contains_any (v : Value) (L : List Int) (n : Int) (w : World) (h : RdI w v L) :
    Calls Try.prog 41 #[v, .int .i64 n] w fun e w' => e = .returned (.bool (hasI L n)) ∧ Below w.heap.size w w' := by
  obtain ⟨a, cap, rfl, hlc, hcm, hc⟩ := h
  obtain ⟨m, hm⟩ : ∃ m, m = L.length := ⟨_, rfl⟩
  have HM : Hid (m = L.length) := hm
  rw [← hm] at hlc hc ⊢
  clear hm
  have hidx : Calls Try.prog 58 #[.slice a m cap, .int .i64 n] w fun e w' => ∃ j : Int, e = .returned (.int .i64 j) ∧ decide (0 ≤ j) = hasI L n ∧ Below w.heap.size w w' := by
    go_enter Try.func58, Try.ntmps58
    go_wp2
    go_loopw [8] (fun i wr => ∃ (k : Nat), k ≤ m ∧ i = .int .i64 k ∧ Hid (∀ j, j < k → (L.getD j 0 == n) = false) ∧ Hid (Below w.heap.size w wr)) (fun i _ => m - (intOf i).toNat)
    case atStart => exact ⟨0, Nat.zero_le _, rfl, fun j hj => absurd hj (Nat.not_lt_zero _), Below.refl _ _⟩
    case round =>
      obtain ⟨k, hk, rfl, HA, HB⟩ := hrel
      by_cases hlt : k < m
      · obtain ⟨b, off, rfl, hbs, hcell⟩ := hc (by omega)
        have hck := (HB.out.cell (p := ⟨b, off + k, none⟩) hbs).trans (hcell k hlt)
        have hltI : (k : Int) < (m : Int) := by omega
        obtain ⟨y, hy⟩ : ∃ y, y = L.getD k 0 := ⟨_, rfl⟩
        rw [← hy] at hck
        have HY : Hid (y = L.getD k 0) := hy
        clear hy hcell hc
        have hyn : (y == n) = (n == y) := by
          by_cases h : y = n
          · subst h; rfl
          · have h' : ¬ n = y := fun q => h q.symm
            rw [beq_eq_false_iff_ne.2 h, beq_eq_false_iff_ne.2 h']
        have HYN : Hid ((y == n) = (n == y)) := hyn
        clear hyn
        cases hq : (n == y) with
        | true =>
          have hr : decide (0 ≤ (k : Int)) = hasI L n := by
            rw [hasI_yes (k := k) (by rw [← HM.out]; exact hlt) (by rw [← HY.out, HYN.out]; exact hq)]
            exact decide_eq_true (by omega)
          have HR : Hid (decide (0 ≤ (k : Int)) = hasI L n) := hr
          clear hr
          go_wp2
          go_ret
          exact ⟨k, rfl, HR.out, HB.out⟩
        | false =>
          have HS : Hid (∀ j, j < k + 1 → (L.getD j 0 == n) = false) := fun j hj => by
            rcases Nat.lt_succ_iff_lt_or_eq.1 hj with h1 | rfl
            · exact HA.out j h1
            · rw [← HY.out, HYN.out]; exact hq
          go_wp2
          go_roundw
          case rel => exact ⟨k + 1, by omega, by go_num, HS, HB⟩
          case measure => simp [intOf]; omega
      · have hke : k = m := by omega
        subst hke
        have hr : hasI L n = false := hasI_no (fun j hj => HA.out j (by rw [HM.out]; exact hj))
        go_wp2
        go_ret
        exact ⟨-1, rfl, by rw [hr]; rfl, HB.out⟩
  have HX := (show Hid (Calls Try.prog 58 #[.slice a m cap, .int .i64 n] w fun e w' => ∃ j : Int, e = .returned (.int .i64 j) ∧ decide (0 ≤ j) = hasI L n ∧ Below w.heap.size w w') from hidx)
  clear hidx hc
  go_enter Try.func41, Try.ntmps41
  go_wp2_with fail
  refine HX.out.mono ?_
  rintro e w1 ⟨j, rfl, hj, hB1⟩
  have HJ : Hid (decide (0 ≤ j) = hasI L n) := hj
  have HB := (show Hid _ from hB1)
  clear hj hB1
  go_wp2
  go_ret
  exact ⟨ret_bool HJ.out, HB.out⟩

set_option maxRecDepth 10000 in
set_option maxHeartbeats 2000000 in
theorem implCan (a : Option Addr) (len cap : Nat) (D : Nat → Ev) (n e : Int) (w : World) (h : IsEvs w a len cap D) :
    Calls Try.prog 20 #[.slice a len cap, .int .i64 n, .int .i64 e] w fun r w' => r = .returned (.bool (rosB D len e && hasI (resR D len e).1 n)) ∧ Below w.heap.size w w' := by
  have HC : Hid (IsEvs w a len cap D) := h
  obtain ⟨ok, hok⟩ : ∃ ok, ok = rosB D len e := ⟨_, rfl⟩
  obtain ⟨R1, hR1⟩ : ∃ R1, R1 = (resR D len e).1 := ⟨_, rfl⟩
  obtain ⟨R2, hR2⟩ : ∃ R2, R2 = (resR D len e).2 := ⟨_, rfl⟩
  have HI : Hid (Calls Try.prog 14 #[.slice a len cap, .int .i64 e] w fun r w' => ∃ a1 c1 a2 c2 z, r = .returned (.tuple #[.agg #[.slice a1 R1.length c1, .slice a2 R2.length c2], .bool ok]) ∧ OwnI w' w.heap.size (.slice a1 R1.length c1) R1 ∧ OwnI w' z (.slice a2 R2.length c2) R2 ∧ w.heap.size ≤ z ∧ (∀ k, (Value.slice a1 R1.length c1).ownBlock = some k → k < z) ∧ Below w.heap.size w w') := by rw [hR1, hR2, hok]; exact implR a len cap D e w h
  rw [← hok, ← hR1]
  clear h hok hR1 hR2
  go_enter Try.func20, Try.ntmps20
  go_wp2_with fail
  refine HI.out.mono ?_
  rintro r w1 ⟨a1, c1, a2, c2, z, rfl, o1, o2, _, _, hB1⟩
  clear HI o2
  have HB : Hid (Below w.heap.size w (w1.alloc (.cells #[.slice a1 R1.length c1, .slice a2 R2.length c2] 31))) := hB1.alloc hB1.size _
  have HO : Hid (RdI (w1.alloc (.cells #[.slice a1 R1.length c1, .slice a2 R2.length c2] 31)) (.slice a1 R1.length c1) R1) := (o1.below ((Below.refl _ _).alloc (Nat.le_refl _) _)).rd
  clear o1 hB1
  cases ok with
  | false =>
    go_wp2
    go_ret
    exact ⟨ret_bool (by simp), HB.out⟩
  | true =>
    go_wp2_with fail
    refine (contains_any _ R1 n _ HO.out).mono ?_
    rintro r w2 ⟨rfl, hB2⟩
    have HB2 : Hid (Below w.heap.size w w2) := HB.out.trans (hB2.mono HB.out.size)
    clear hB2
    go_wp2
    go_ret
    exact ⟨ret_bool (by simp), HB2.out⟩

set_option maxRecDepth 10000 in
set_option maxHeartbeats 2000000 in
theorem specCan (a : Option Addr) (len cap : Nat) (D : Nat → Ev) (n e : Int) (w : World) (h : IsEvs w a len cap D) :
    Calls Try.prog 19 #[.slice a len cap, .int .i64 n, .int .i64 e] w fun r w' => r = .returned (.bool (rosB D len e && hasI (resR D len e).1 n)) ∧ Below w.heap.size w w' := by
  have HC : Hid (IsEvs w a len cap D) := h
  obtain ⟨ok, hok⟩ : ∃ ok, ok = rosB D len e := ⟨_, rfl⟩
  obtain ⟨R1, hR1⟩ : ∃ R1, R1 = (resR D len e).1 := ⟨_, rfl⟩
  obtain ⟨R2, hR2⟩ : ∃ R2, R2 = (resR D len e).2 := ⟨_, rfl⟩
  have HI : Hid (Calls Try.prog 13 #[.slice a len cap, .int .i64 e] w fun r w' => ∃ a1 c1 a2 c2, r = .returned (.tuple #[.agg #[.slice a1 R1.length c1, .slice a2 R2.length c2], .bool ok]) ∧ OwnI w' w.heap.size (.slice a1 R1.length c1) R1 ∧ OwnI w' w.heap.size (.slice a2 R2.length c2) R2 ∧ Below w.heap.size w w') := by rw [hR1, hR2, hok]; exact specR a len cap D e w h
  rw [← hok, ← hR1]
  clear h hok hR1 hR2
  go_enter Try.func19, Try.ntmps19
  go_wp2_with fail
  refine HI.out.mono ?_
  rintro r w1 ⟨a1, c1, a2, c2, rfl, o1, o2, hB1⟩
  clear HI o2
  have HB : Hid (Below w.heap.size w (w1.alloc (.cells #[.slice a1 R1.length c1, .slice a2 R2.length c2] 31))) := hB1.alloc hB1.size _
  have HO : Hid (RdI (w1.alloc (.cells #[.slice a1 R1.length c1, .slice a2 R2.length c2] 31)) (.slice a1 R1.length c1) R1) := (o1.below ((Below.refl _ _).alloc (Nat.le_refl _) _)).rd
  clear o1 hB1
  cases ok with
  | false =>
    go_wp2
    go_ret
    exact ⟨ret_bool (by simp), HB.out⟩
  | true =>
    go_wp2_with fail
    refine (has_any _ R1 n _ HO.out).mono ?_
    rintro r w2 ⟨rfl, hw2⟩
    rw [hw2]; clear hw2 w2
    go_wp2
    go_ret
    exact ⟨ret_bool (by simp), HB.out⟩

set_option maxRecDepth 10000 in
set_option maxHeartbeats 4000000 in
theorem can_walk (a1 : Option Addr) (len1 cap1 : Nat) (D1 : Nat → Ev) (n e : Int) (w : World) (h1 : IsEvs w a1 len1 cap1 D1) :
    Calls Try.prog 5 #[.slice a1 len1 cap1, .int .i64 n, .int .i64 e] w fun r w' => r = .returned (.bool true) ∧ Below w.heap.size w w' := by
  have hcap1 : len1 ≤ 9223372036854775807 := Nat.le_trans h1.1 h1.2.1
  go_enter Try.func5, Try.ntmps5
  go_wp2_with fail
  refine (szEvs_any a1 len1 cap1 _ w hcap1 (by omega) (by omega)).mono ?_
  rintro r w' ⟨r, rfl, hr, hw⟩
  rw [hw]; clear hw w'
  rcases hr with hr | ⟨hr, hr1, hl1⟩
  · go_wp2
    go_ret
    exact ⟨rfl, Below.refl _ _⟩
  obtain ⟨A, hA⟩ : ∃ A, A = listD D1 len1 := ⟨_, rfl⟩
  have TA : Hid (∀ w', Below w.heap.size w w' → Calls Try.prog 10 #[.slice a1 len1 cap1] w' fun e w'' => e = .returned (.slice (some ⟨w'.heap.size, 0, none⟩) A.length A.length) ∧ OwnE w'' w'.heap.size w'.heap.size A.length A ∧ Below w'.heap.size w' w'') := fun w' hB' => toL_any a1 len1 cap1 D1 A hA w' (h1.below hB') hl1
  obtain ⟨ok, hok⟩ : ∃ ok, ok = (rosB (fun i => A.getD i evZ) A.length e && hasI (resR (fun i => A.getD i evZ) A.length e).1 n) := ⟨_, rfl⟩
  have TS : Hid (∀ g b w', OwnE w' b g A.length A → Calls Try.prog 19 #[.slice (some ⟨g, 0, none⟩) A.length A.length, .int .i64 n, .int .i64 e] w' fun r w'' => r = .returned (.bool ok) ∧ Below w'.heap.size w' w'') := fun g b w' h => by rw [hok]; exact specCan _ _ _ _ n e w' h.evs
  have TI : Hid (∀ g b w', OwnE w' b g A.length A → Calls Try.prog 20 #[.slice (some ⟨g, 0, none⟩) A.length A.length, .int .i64 n, .int .i64 e] w' fun r w'' => r = .returned (.bool ok) ∧ Below w'.heap.size w' w'') := fun g b w' h => by rw [hok]; exact implCan _ _ _ _ n e w' h.evs
  clear hA h1 hok
  have hokn : (ok != ok) = false := by simp
  go_wp2_with fail
  refine (TA.out w (Below.refl _ _)).mono ?_
  rintro r w2 ⟨rfl, o2, b2⟩
  go_wp2_with fail
  refine (TS.out _ _ w2 o2).mono ?_
  rintro r w4 ⟨rfl, hB4⟩
  have b4 : Below w.heap.size w w4 := b2.trans (hB4.mono b2.size)
  clear o2 hB4
  go_wp2_with fail
  refine (TA.out w4 b4).mono ?_
  rintro r w5 ⟨rfl, o5, hB5⟩
  have b5 : Below w.heap.size w w5 := b4.trans (hB5.mono b4.size)
  go_wp2_with fail
  refine (TI.out _ _ w5 o5).mono ?_
  rintro r w7 ⟨rfl, hB7⟩
  have b7 : Below w.heap.size w w7 := b5.trans (hB7.mono b5.size)
  have o7 := o5.below hB7
  clear hB5 hB7 b4 b5 o5
  go_wp2_with fail
  refine (TA.out w7 b7).mono ?_
  rintro r w9 ⟨rfl, x9, hB9⟩
  have b9 : Below w.heap.size w w9 := b7.trans (hB9.mono b7.size)
  go_wp2_with fail
  refine (eqV_same _ _ _ _ _ _ (o7.below hB9).v x9.v).mono ?_
  rintro r w10 ⟨rfl, hB10⟩
  have HB : Hid (Below w.heap.size w w10) := b9.trans (hB10.mono b9.size)
  clear hB9 hB10 x9 o7 b7 b9
  go_wp2
  go_ret
  exact ⟨rfl, HB.out⟩

set_option maxRecDepth 100000 in
theorem can_lifted (os : Os) (started : os.Started) (H : Type) (enc : TypeId × Value → H) :
    ReturnsInHanded {} Try.checked os 5 .any (Rows.fnExactCanWriteSpec.pre6 enc Try.prog Try.f5 Rows.fnExactCanWriteRow.domain false) (Rows.fnExactCanWriteSpec.post enc Try.prog Try.f5 false true false false) := by
  refine returnsInHanded_of_change (C := Try.checked) own started (by kernel_rfl) Try.func5
    (ChangeSpec.witness6 (enc := enc) (C := Try.checked) false ⟨#[], #[.slice none 0 0, .int .i64 0, .int .i64 0], []⟩ 8 (by kernel_rfl) (by kernel_rfl) (by kernel_rfl) (by kernel_rfl)) ?_
  intro W base args ds gs before hval0 hW hcnd _
  have hval : ∀ (j : Nat) t v, Try.f5.params[j]? = some t → args[j]? = some v → Value.okWide Try.prog W .any base t v := hval0
  have hW' := hW
  obtain ⟨p, q, hA0, hV, rfl, hfz, hnd⟩ := hW
  have hA : DataW.TrodAll enc Try.prog W 0 (fun _ => true) true Try.f5.params.toList args.toList ds p := hA0
  rw [Try.params5] at hA hval
  obtain ⟨v0, vs0, d0, ds0, p0, q0, hargs, rfl, rfl, h0, r0⟩ := trodAll_cons hA
  obtain ⟨v1, vs1, d1, ds1, p1, q1, rfl, rfl, rfl, h1, r1⟩ := trodAll_cons r0
  obtain ⟨v2, vs2, d2, ds2, p2, q2, rfl, rfl, rfl, h2, r2⟩ := trodAll_cons r1
  obtain ⟨rfl, rfl, rfl⟩ := trodAll_nil r2
  obtain rfl : args = #[v0, v1, v2] := by cases args; simp_all
  obtain ⟨rfl, rfl⟩ := trodVars_none hV
  obtain ⟨a0, len0, cap0, rfl⟩ := okWide_slice Try.underlying22 (hval 0 22 v0 rfl rfl)
  have k0 := h0
  have k1 := h1
  have k2 := h2
  have lt0 : ∀ x ∈ p0, x.block < W.heap.size := by obtain ⟨m, hm⟩ := k0; exact DataW.trod_lt m _ _ _ hm
  have lt1 : ∀ x ∈ p1, x.block < W.heap.size := by obtain ⟨m, hm⟩ := k1; exact DataW.trod_lt m _ _ _ hm
  have lt2 : ∀ x ∈ p2, x.block < W.heap.size := by obtain ⟨m, hm⟩ := k2; exact DataW.trod_lt m _ _ _ hm
  obtain ⟨D, w0⟩ : ∃ D, IsEvs W a0 len0 cap0 D := by
    obtain ⟨fuel, hf⟩ := h0
    obtain ⟨a, len, cap, D, e, hI, _⟩ := open_evs (by simpa [Value.cells] using hf)
    simp at e
    obtain ⟨rfl, rfl, rfl⟩ := e
    exact ⟨D, hI⟩
  obtain ⟨z1, rfl⟩ := okWide_int Try.underlying2 (hval 1 2 v1 rfl rfl)
  obtain ⟨z2, rfl⟩ := okWide_int Try.underlying2 (hval 2 2 v2 rfl rfl)
  clear hA0 hval0
  refine (can_walk a0 len0 cap0 D z1 z2 W w0).mono fun e W' ⟨he, bel⟩ => ?_
  subst he
  exact ⟨_, rfl, _, _, _, [], _, [], hW', trodAll_mk1 (shut_bool Try.underlying4 _), (trodAll_cons_mk (Below.trod laidOut (by kernel_rfl) (of_decide_eq_true (by kernel_rfl)) k0 bel lt0) (trodAll_cons_mk (Below.trod laidOut (by kernel_rfl) (of_decide_eq_true (by kernel_rfl)) k1 bel lt1) (trodAll_cons_mk (Below.trod laidOut (by kernel_rfl) (of_decide_eq_true (by kernel_rfl)) k2 bel lt2) trodAll_mk0))), rfl, bel.frame _, fun h => by cases h⟩

theorem can_proved : Rows.FnExactCanWriteSaid :=
  OpenClaim.holds_of_wide 5 Try.f5 rfl rfl rfl rfl rfl rfl rfl ⟨rfl, rfl, rfl, rfl, rfl⟩ rfl rfl rfl rfl rfl (by kernel_rfl) Try.func5 (by kernel_rfl)
    (of_decide_eq_true (by kernel_rfl)) (by unfold Func.isWrapper; first | (rw [if_pos (by decide +kernel)]; kernel_rfl) | (rw [if_neg (by decide +kernel)]; exact ⟨rfl, rfl⟩))
    (fun os started H enc _ => can_lifted os started H enc)
#print axioms can_proved
end Go.Proofs.Yticnmhljdpengaa
