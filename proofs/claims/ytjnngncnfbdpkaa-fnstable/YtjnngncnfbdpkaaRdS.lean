/-
  The statement FnStableSaid: at every code the law returns true, and the code reads afterwards as it read before. No condition.
-/
import Derived.Test.YtjnngncnfbdpkaaRdE
import Derived.Test.YtjnngncnfbdpkaaOpenU5
import Derived.Test.YtjnngncnfbdpkaaRwZ
import Derived.Test.YtjnngncnfbdpkaaRwF
import Derived.Test.YtjnngncnfbdpkaaRows
namespace Go.Proofs.Ytjnngncnfbdpkaa
open Go.ChangeShapes Go.WideShapes Go.ChangeAt Go.RowKit Go.Deep
set_option linter.unusedVariables false

theorem IsU8.below {w w' : World} {a : Option Addr} {len cap : Nat} {Z : Nat → Int} (h : IsU8 w a len cap Z) (hB : Below w.heap.size w w') : IsU8 w' a len cap Z := by
  obtain ⟨h1, h2, h3, h4⟩ := h
  refine ⟨h1, h2, h3, fun hp => ?_⟩
  obtain ⟨b, off, e, hb, hc⟩ := h4 hp
  exact ⟨b, off, e, Nat.lt_of_lt_of_le hb hB.size, fun i hi => (hB.cell (p := ⟨b, off + i, none⟩) hb).trans (hc i hi)⟩
/-- one of these numbers, alone -/
theorem one_rd {w : World} {b off m cap i : Nat} {L : List Int} (hm : m = L.length) (hcap : m ≤ cap) (hc2 : cap ≤ 9223372036854775807) (hb : b < w.heap.size) (hc : ∀ j, j < m → w.cell? ⟨b, off + j, none⟩ = some (.int .i64 (L.getD j 0))) (hi : i < m) :
    RdI w (.slice (some ⟨b, off + i, none⟩) 1 (cap - i)) [L.getD i 0] := by
  refine ⟨_, _, rfl, by simp; omega, by omega, fun _ => ⟨b, off + i, rfl, hb, fun j hj => ?_⟩⟩
  have e : j = 0 := by simpa using hj
  subst e
  exact hc i hi
theorem stB_parts {L : List Rw} {who : List Int} (h : stB L who = true) : rowsB L = true ∧ 1 ≤ who.length ∧ who.length ≤ 9 := by
  unfold stB at h
  simp only [Bool.and_eq_true, decide_eq_true_eq] at h
  exact ⟨h.1, h.2.1, h.2.2⟩
theorem stR_yes {L : List Rw} {who : List Int} (h : stB L who = true) : stR L who = lst9 (stT L who who.length) := by unfold stR; rw [if_pos h]
theorem stR_no {L : List Rw} {who : List Int} (h : stB L who = false) : stR L who = [] := by unfold stR; rw [if_neg (by rw [h]; decide)]
theorem stB_one {L : List Rw} {who : List Int} (h : stB L who = true) (z : Int) : stB L [z] = true := by
  unfold stB
  rw [(stB_parts h).1]
  rfl
theorem st_one_le {L : List Rw} {who : List Int} (h : stB L who = true) {i k : Nat} (hi : i < who.length) (hk : k < 9) : (stR L who).getD k 0 ≤ (stR L [who.getD i 0]).getD k 0 := by
  rw [stR_yes h, stR_yes (stB_one h _), lst9_at _ hk, lst9_at _ hk]
  have h1 := stT_one_le L who k who.length (Nat.le_refl _) i hi
  have h2 := stT_succ L [who.getD i 0] (j := 0) (by simp) k
  have h3 := fZ_le (stB_parts h).1 (who.getD i 0) hk
  show stT L who who.length k ≤ stT L [who.getD i 0] 1 k
  rw [h2]
  show _ ≤ min 1000000 (fZ L (who.getD i 0) k)
  omega
theorem st_more_le {L M : List Rw} {who : List Int} (h : stB L who = true) (hM : rowsB M = true) {k : Nat} (hk : k < 9) : (stR L who).getD k 0 ≤ (stR (mgR L M) who).getD k 0 := by
  have hL := (stB_parts h).1
  have h2 : stB (mgR L M) who = true := by
    unfold stB at h ⊢
    rw [mgR_ok hL hM]
    rw [hL] at h
    exact h
  rw [stR_yes h, stR_yes h2, lst9_at _ hk, lst9_at _ hk]
  exact stT_mono who (fun z => by rw [mgR_fZ hL hM z hk]; unfold maxZ; omega) _ (Nat.le_refl _)
theorem st_more_len {L M : List Rw} {who : List Int} (h : stB L who = true) (hM : rowsB M = true) : (stR (mgR L M) who).length = 9 := by
  have hL := (stB_parts h).1
  have h2 : stB (mgR L M) who = true := by
    unfold stB at h ⊢
    rw [mgR_ok hL hM]
    rw [hL] at h
    exact h
  rw [stR_yes h2, lst9_len]

set_option maxRecDepth 10000 in
set_option maxHeartbeats 8000000 in
theorem stable_walk {a : Option Addr} {len cap : Nat} {Z : Nat → Int} (W : World) (hU : IsU8 W a len cap Z) :
    Calls Try.prog 5 #[.slice a len cap] W fun e w' => e = .returned (.bool true) ∧ Below W.heap.size W w' := by
  go_enter Try.func5, Try.ntmps5
  go_wp2_with fail
  refine (big_any _ _ _ _).mono ?_
  rintro e w0 ⟨rfl, rfl⟩
  by_cases hbg : (1048576 : Int) < (len : Int)
  · go_wp2
    go_ret
    exact ⟨rfl, Below.refl _ _⟩
  have hbd : decide ((1048576 : Int) < (len : Int)) = false := by simpa using hbg
  clear hbg
  go_wp2_with fail
  refine (drawStable_any hU).mono ?_
  rintro e w1 ⟨vl, L, vw, who, rfl, hL, hwl, hwf, hR1, hI1, hB1⟩
  go_wp2_with fail
  refine (drawMerged_any (hU.below hB1)).mono ?_
  rintro e w2 ⟨vo, O, vx, Xo, rfl, hO, hXo, hR2, _, hB2⟩
  have RL : Hid (∀ w', Below w2.heap.size w2 w' → RdR w' vl L) := fun w' h => (hR1.below hB2).below h
  have RO : Hid (∀ w', Below w2.heap.size w2 w' → RdR w' vo O) := fun w' h => hR2.below h
  have RW : Hid (∀ w', Below w2.heap.size w2 w' → RdI w' vw who) := fun w' h => (hI1.below hB2).below h
  have HB2 : Hid (Below w0.heap.size w0 w2) := hB1.trans (hB2.mono hB1.size)
  have HL : Hid (L.length ≤ 1048576 ∧ O.length ≤ 1048576) := ⟨by omega, by omega⟩
  have HWF : Hid (∀ z ∈ who, (Lit.int .i64 z).wf = true) := hwf
  obtain ⟨aw, cw, hvw, hcw, hcw2, hcc⟩ := hI1.below hB2
  subst hvw
  clear hR1 hR2 hI1 hB1 hL hO hU hwf hXo
  go_wp2_with fail
  refine (implStable_any vl _ L who w2 (RL.out _ (Below.refl _ _)) HL.out.1 (RW.out _ (Below.refl _ _)) HWF.out).mono ?_
  rintro e X ⟨vs, rfl, hS, hX⟩
  have HX : Hid (Below w2.heap.size w2 X) := hX
  obtain ⟨av, cv, hvs, hcs, hcs2, hsc⟩ := hS.rd
  have RS : Hid (∀ w', Below X.heap.size X w' → RdI w' vs (stR L who)) := fun w' h => hS.rd.below h
  subst hvs
  clear hS hX
  obtain ⟨m, hm⟩ : ∃ m, m = who.length := ⟨_, rfl⟩
  have HM : Hid (m = who.length) := hm
  rw [← hm] at hcw hcc RW hwl ⊢
  clear hm
  go_wp2_with fail
  refine (specStable_any vl _ L who X (RL.out _ HX.out) (RW.out _ HX.out)).mono ?_
  rintro e x1 ⟨u1, rfl, r1, q1⟩
  have HX1 : Hid (Below X.heap.size X x1) := q1
  go_wp2_with fail
  refine (sameI_same _ _ _ _ (RS.out _ HX1.out) r1.rd).mono ?_
  rintro e x2 ⟨rfl, q2⟩
  have HX2 : Hid (Below X.heap.size X x2) := HX1.out.trans (q2.mono HX1.out.size)
  have HY2 : Hid (Below w2.heap.size w2 x2) := HX.out.trans (HX2.out.mono HX.out.size)
  clear q1 q2 r1 HX1
  cases hb : stB L who with
  | false =>
    have hsr := stR_no hb
    have hsl : (stR L who).length = 0 := by rw [hsr]; rfl
    rw [hsl] at RS ⊢
    clear hsc hcs hsr hb hcc
    go_wp2_with fail
    refine (specStable_any vl _ L who x2 (RL.out _ HY2.out) (RW.out _ HY2.out)).mono ?_
    rintro e x3 ⟨u1, rfl, r1, q1⟩
    have HX3 : Hid (Below X.heap.size X x3) := HX2.out.trans (q1.mono HX2.out.size)
    clear q1
    go_wp2_with fail
    refine (sameI_same _ _ _ _ (RS.out _ HX3.out) r1.rd).mono ?_
    rintro e x4 ⟨rfl, q2⟩
    have HX4 : Hid (Below X.heap.size X x4) := HX3.out.trans (q2.mono HX3.out.size)
    clear q2 r1
    go_wp2
    go_ret
    exact ⟨rfl, (HB2.out.trans (HX.out.mono HB2.out.size)).trans (HX4.out.mono (HB2.out.trans (HX.out.mono HB2.out.size)).size)⟩
  | true =>
    have hsr := stR_yes hb
    have hsl : (stR L who).length = 9 := by rw [hsr, lst9_len]
    have HST : Hid (stB L who = true) := hb
    have hm1 : 1 ≤ m := by rw [HM.out]; exact (stB_parts hb).2.1
    obtain ⟨bs, os, rfl, hbs, hsc⟩ := hsc (by omega)
    obtain ⟨bw, ow, rfl, hbw, hwc⟩ := hcc (by omega)
    rw [hsl] at hcs hsc RS ⊢
    have CS : Hid (∀ w' k, Below X.heap.size X w' → k < 9 → w'.cell? ⟨bs, os + k, none⟩ = some (.int .i64 ((stR L who).getD k 0))) := fun w' k h hk => (h.cell (p := ⟨bs, os + k, none⟩) hbs).trans (hsc k hk)
    have CW : Hid (∀ w' i, Below w2.heap.size w2 w' → i < m → RdI w' (.slice (some ⟨bw, ow + i, none⟩) 1 (cw - i)) [who.getD i 0]) := fun w' i h hi => (one_rd HM.out hcw hcw2 hbw hwc hi).below h
    have HW1 : Hid (∀ i, i < m → ∀ z ∈ [who.getD i 0], (Lit.int .i64 z).wf = true) := fun i hi z hz => by
      rw [List.mem_singleton.1 hz]
      exact HWF.out _ (by simp [show i < who.length by rw [← HM.out]; exact hi])
    clear hsc hwc hsr hb hbs hbw
    go_wp2
    go_loopw [8] (fun i wr => ∃ (k : Nat), k ≤ m ∧ i = .int .i64 k ∧ Hid (Below X.heap.size X wr)) (fun i _ => m - (intOf i).toNat)
    case atStart => exact ⟨0, Nat.zero_le _, rfl, HX2⟩
    case round =>
      obtain ⟨k, hk, rfl, HB⟩ := hrel
      have HBY : Hid (Below w2.heap.size w2 wr) := HX.out.trans (HB.out.mono HX.out.size)
      by_cases hlt : k < m
      · have hltI : (k : Int) < (m : Int) := by omega
        have hk1 : k + 1 ≤ cw := by omega
        have hk2 : k < cw := by omega
        have hk3 : k ≤ k + 1 := by omega
        have hk4 : (k : Int) ≤ (k : Int) + 1 := by omega
        have hk5 : (k : Int) + 1 ≤ (cw : Int) := by omega
        have hwr : IntKind.i64.wrap ((k : Int) + 1) = ((k + 1 : Nat) : Int) := by rw [IntKind.wrap_i64]; omega
        go_wp2_with fail
        refine (implStable_any vl _ L [who.getD k 0] wr (RL.out _ HBY.out) HL.out.1 (CW.out _ k HBY.out hlt) (HW1.out k hlt)).mono ?_
        rintro e y1 ⟨v1, rfl, o1, q1⟩
        have HY1 : Hid (Below X.heap.size X y1) := HB.out.trans (q1.mono HB.out.size)
        obtain ⟨a1, c1, hv1, hc1, hc2, hcc1⟩ := o1.rd
        have h9 : (stR L [who.getD k 0]).length = 9 := by rw [stR_yes (stB_one HST.out _), lst9_len]
        obtain ⟨b1, f1, rfl, hb1, hcc1⟩ := hcc1 (by omega)
        rw [h9] at hv1 hc1 hcc1
        subst hv1
        have C1 : Hid (∀ w' j, Below y1.heap.size y1 w' → j < 9 → w'.cell? ⟨b1, f1 + j, none⟩ = some (.int .i64 ((stR L [who.getD k 0]).getD j 0))) := fun w' j h hj => (h.cell (p := ⟨b1, f1 + j, none⟩) hb1).trans (hcc1 j hj)
        have HLE : Hid (∀ j, j < 9 → (stR L who).getD j 0 ≤ (stR L [who.getD k 0]).getD j 0) := fun j hj => st_one_le HST.out (by rw [← HM.out]; exact hlt) hj
        clear hcc1 o1 q1 h9 hb1 hk3 hk4 hk5 hwr hk1 hk2
        go_wp2
        go_loopw [10] (fun i wq => ∃ (j : Nat), j ≤ 9 ∧ i = .int .i64 j ∧ Hid (Below y1.heap.size y1 wq)) (fun i _ => 9 - (intOf i).toNat)
        case atStart => exact ⟨0, Nat.zero_le _, rfl, Below.refl _ _⟩
        case round =>
          obtain ⟨j, hj, rfl, HJ⟩ := hrel
          have HJX : Hid (Below X.heap.size X wr) := HY1.out.trans (HJ.out.mono HY1.out.size)
          by_cases hj9 : j < 9
          · have hjI : (j : Int) < 9 := by omega
            have d1 := CS.out wr j HJX.out hj9
            have d2 := C1.out wr j HJ.out hj9
            have hle := HLE.out j hj9
            obtain ⟨p1, hp1⟩ : ∃ p1, p1 = (stR L who).getD j 0 := ⟨_, rfl⟩
            obtain ⟨p2, hp2⟩ : ∃ p2, p2 = (stR L [who.getD k 0]).getD j 0 := ⟨_, rfl⟩
            rw [← hp1] at d1 hle
            rw [← hp2] at d2 hle
            have hgt : decide (p2 < p1) = false := decide_eq_false (by omega)
            have hgt2 : ¬ (p2 < p1) := by omega
            clear hp1 hp2 hle
            go_wp2
            go_quiet (fail)
            go_wp2
            go_roundw
            case rel => exact ⟨j + 1, by omega, by go_num, HJ.out.trans ⟨rfl, rfl, rfl, Nat.le_refl _, fun _ _ => rfl⟩⟩
            case measure => simp [intOf]; omega
          · have hje : j = 9 := by omega
            subst hje
            go_wp2
            go_roundw
            case rel => exact ⟨k + 1, by omega, by go_num, HJX⟩
            case measure => simp [intOf]; omega
      · have hke : k = m := by omega
        subst hke
        have hkd : decide ((k : Int) < (k : Int)) = false := by simp
        go_wp2_with fail
        refine (implMerged_any vl vo L O wr (RL.out _ HBY.out) (RO.out _ HBY.out) HL.out.1 HL.out.2).mono ?_
        rintro e z1 ⟨vm, rfl, o1, q1⟩
        have HZ1 : Hid (Below X.heap.size X z1) := HB.out.trans (q1.mono HB.out.size)
        have HZ1Y : Hid (Below w2.heap.size w2 z1) := HBY.out.trans (q1.mono HBY.out.size)
        have HRM : Hid (RdR z1 vm (mgR L O)) := o1.rd
        rw [(stB_parts HST.out).1, Bool.true_and]
        clear o1 q1
        cases hro : rowsB O with
        | false =>
          go_wp2
          go_ret
          exact ⟨rfl, (HB2.out.trans (HX.out.mono HB2.out.size)).trans (HZ1.out.mono (HB2.out.trans (HX.out.mono HB2.out.size)).size)⟩
        | true =>
          have HRO : Hid (rowsB O = true) := hro
          clear hro
          go_wp2_with fail
          refine (implStable_any vm _ (mgR L O) who z1 HRM.out (by have := mgR_len L O; omega) (RW.out _ HZ1Y.out) HWF.out).mono ?_
          rintro e y1 ⟨v1, rfl, o1, q1⟩
          have HY1 : Hid (Below X.heap.size X y1) := HZ1.out.trans (q1.mono HZ1.out.size)
          obtain ⟨a1, c1, hv1, hc1, hc2, hcc1⟩ := o1.rd
          have h9 : (stR (mgR L O) who).length = 9 := st_more_len HST.out HRO.out
          obtain ⟨b1, f1, rfl, hb1, hcc1⟩ := hcc1 (by omega)
          rw [h9] at hv1 hc1 hcc1
          subst hv1
          have C1 : Hid (∀ w' j, Below y1.heap.size y1 w' → j < 9 → w'.cell? ⟨b1, f1 + j, none⟩ = some (.int .i64 ((stR (mgR L O) who).getD j 0))) := fun w' j h hj => (h.cell (p := ⟨b1, f1 + j, none⟩) hb1).trans (hcc1 j hj)
          have HLE : Hid (∀ j, j < 9 → (stR L who).getD j 0 ≤ (stR (mgR L O) who).getD j 0) := fun j hj => st_more_le HST.out HRO.out hj
          clear hcc1 o1 q1 h9 hb1
          go_wp2
          go_loopw [14] (fun i wq => ∃ (j : Nat), j ≤ 9 ∧ i = .int .i64 j ∧ Hid (Below y1.heap.size y1 wq)) (fun i _ => 9 - (intOf i).toNat)
          case atStart => exact ⟨0, Nat.zero_le _, rfl, Below.refl _ _⟩
          case round =>
            obtain ⟨j, hj, rfl, HJ⟩ := hrel
            have HJX : Hid (Below X.heap.size X wr) := HY1.out.trans (HJ.out.mono HY1.out.size)
            by_cases hj9 : j < 9
            · have hjI : (j : Int) < 9 := by omega
              have d1 := CS.out wr j HJX.out hj9
              have d2 := C1.out wr j HJ.out hj9
              have hle := HLE.out j hj9
              obtain ⟨p1, hp1⟩ : ∃ p1, p1 = (stR L who).getD j 0 := ⟨_, rfl⟩
              obtain ⟨p2, hp2⟩ : ∃ p2, p2 = (stR (mgR L O) who).getD j 0 := ⟨_, rfl⟩
              rw [← hp1] at d1 hle
              rw [← hp2] at d2 hle
              have hgt : decide (p2 < p1) = false := decide_eq_false (by omega)
              have hgt2 : ¬ (p2 < p1) := by omega
              clear hp1 hp2 hle
              go_wp2
              go_quiet (fail)
              go_wp2
              go_roundw
              case rel => exact ⟨j + 1, by omega, by go_num, HJ.out.trans ⟨rfl, rfl, rfl, Nat.le_refl _, fun _ _ => rfl⟩⟩
              case measure => simp [intOf]; omega
            · have hje : j = 9 := by omega
              subst hje
              go_wp2
              go_ret
              exact ⟨rfl, (HB2.out.trans (HX.out.mono HB2.out.size)).trans (HJX.out.mono (HB2.out.trans (HX.out.mono HB2.out.size)).size)⟩

set_option maxRecDepth 100000 in
theorem stable_lifted (os : Os) (started : os.Started) (H : Type) (enc : TypeId × Value → H) :
    ReturnsInHanded {} Try.checked os 5 .any (Rows.fnStableSpec.pre6 enc Try.prog Try.f5 Rows.fnStableRow.domain false) (Rows.fnStableSpec.post enc Try.prog Try.f5 false true false false) := by
  refine returnsInHanded_of_change (C := Try.checked) own started (by kernel_rfl) Try.func5
    (ChangeSpec.witness6 (enc := enc) (C := Try.checked) false ⟨#[], #[.slice none 0 0], []⟩ 8 (by kernel_rfl) (by kernel_rfl) (by kernel_rfl) (by kernel_rfl)) ?_
  intro W base args ds gs before hval0 hW hcnd _
  have hval : ∀ (j : Nat) t v, Try.f5.params[j]? = some t → args[j]? = some v → Value.okWide Try.prog W .any base t v := hval0
  have hW' := hW
  obtain ⟨p, q, hA0, hV, rfl, hfz, hnd⟩ := hW
  have hA : DataW.TrodAll enc Try.prog W 0 (fun _ => true) true Try.f5.params.toList args.toList ds p := hA0
  rw [Try.params5] at hA hval
  obtain ⟨v0, vs0, d0, ds0, p0, q0, hargs, rfl, rfl, h0, r0⟩ := trodAll_cons hA
  obtain ⟨rfl, rfl, rfl⟩ := trodAll_nil r0
  obtain rfl : args = #[v0] := by cases args; simp_all
  obtain ⟨rfl, rfl⟩ := trodVars_none hV
  obtain ⟨a0, len0, cap0, rfl⟩ := okWide_slice Try.underlying31 (hval 0 31 v0 rfl rfl)
  have k0 := h0
  have lt0 : ∀ x ∈ p0, x.block < W.heap.size := by obtain ⟨m, hm⟩ := k0; exact DataW.trod_lt m _ _ _ hm
  obtain ⟨Z, w0⟩ : ∃ Z, IsU8 W a0 len0 cap0 Z := by
    obtain ⟨fuel, hf⟩ := h0
    obtain ⟨a, len, cap, Z, e, hI⟩ := open_u8 (by simpa [Value.cells] using hf)
    simp at e
    obtain ⟨rfl, rfl, rfl⟩ := e
    exact ⟨Z, hI⟩
  clear hA0 hval0
  refine (stable_walk W w0).mono fun e W' ⟨he, bel⟩ => ?_
  subst he
  exact ⟨_, rfl, _, _, _, [], _, [], hW', trodAll_mk1 (shut_bool Try.underlying4 _), (trodAll_cons_mk (Below.trod laidOut (by kernel_rfl) (of_decide_eq_true (by kernel_rfl)) k0 bel lt0) trodAll_mk0), rfl, bel.frame _, fun h => by cases h⟩

theorem stable_proved : Rows.FnStableSaid :=
  OpenClaim.holds_of_wide 5 Try.f5 rfl rfl rfl rfl rfl rfl rfl ⟨rfl, rfl, rfl, rfl, rfl⟩ rfl rfl rfl rfl rfl (by kernel_rfl) Try.func5 (by kernel_rfl)
    (of_decide_eq_true (by kernel_rfl)) (by unfold Func.isWrapper; first | (rw [if_pos (by decide +kernel)]; kernel_rfl) | (rw [if_neg (by decide +kernel)]; exact ⟨rfl, rfl⟩))
    (fun os started H enc _ => stable_lifted os started H enc)
#print axioms stable_proved
end Go.Proofs.Ytjnngncnfbdpkaa
