/-
  The statement FnDropsWinSaid: at every code the law returns true, and the code reads afterwards as it read before. No condition.
-/
import Derived.Test.YthdlgnbdppijkaaRPl
import Derived.Test.YthdlgnbdppijkaaHInt
import Derived.Test.YthdlgnbdppijkaaDrawR
import Derived.Test.YthdlgnbdppijkaaOpenU
namespace Go.Proofs.Ythdlgnbdppijkaa
open Go.ChangeShapes Go.WideShapes Go.ChangeAt Go.RowKit Go.Deep
set_option linter.unusedVariables false

theorem hasInt_later {v : Value} {L : List Int} {n : Int} {w : World} {y : Bool} (hy : y = hasI L n) (t : Later w) (h : RdI w v L) : Calls Try.prog 15 #[v, .int .i64 n] t.val fun e w' => e = .returned (.bool y) ∧ Below t.val.heap.size t.val w' := by
  rw [hy]
  refine (hasInt_any v L n t.val (h.below t.ok)).mono ?_
  rintro e w' ⟨rfl, hw⟩
  rw [hw]
  exact ⟨rfl, Below.refl _ _⟩

set_option maxRecDepth 10000 in
set_option maxHeartbeats 4000000 in
theorem drops_walk {a : Option Addr} {len cap : Nat} {Z : Nat → Int} (w : World) (hU : IsU8 w a len cap Z) :
    Calls Try.prog 4 #[.slice a len cap] w fun e w' => e = .returned (.bool true) ∧ Below w.heap.size w w' := by
  by_cases hbig : (1048576 : Int) < (len : Int)
  · go_enter Try.func4, Try.ntmps4
    go_wp2_with fail
    refine (big_any _ _ _ _).mono ?_
    rintro e w1 ⟨rfl, hw⟩
    rw [hw, decide_eq_true hbig]
    go_wp2
    go_ret
    exact ⟨rfl, Below.refl _ _⟩
  have HN : Hid (decide ((1048576 : Int) < (len : Int)) = false) := decide_eq_false hbig
  clear hbig
  go_enter Try.func4, Try.ntmps4
  go_wp2_with fail
  refine (big_any _ _ _ _).mono ?_
  rintro e w1 ⟨rfl, hw⟩
  rw [hw, HN.out]
  clear hw w1 HN
  go_wp2_with fail
  refine (drawRoster_any hU).mono ?_
  rintro e w2 ⟨g, c, A, z, rfl, hAl, oA, b2⟩
  clear hU
  obtain ⟨R, hR⟩ : ∃ R, R = resR (fun i => A.getD i evZ) A.length z := ⟨_, rfl⟩
  obtain ⟨P, hP⟩ : ∃ P, P = resR (fun i => A.getD i evZ) A.length (z - 1) := ⟨_, rfl⟩
  obtain ⟨ok, hok⟩ : ∃ ok, ok = rosB (fun i => A.getD i evZ) A.length z := ⟨_, rfl⟩
  have TI : Hid (∀ w', OwnE w' w.heap.size g c A → Calls Try.prog 8 #[.slice (some ⟨g, 0, none⟩) A.length c, .int .i64 z] w' fun r w'' => ∃ a1 c1 a2 c2 y, r = .returned (.tuple #[.agg #[.slice a1 R.1.length c1, .slice a2 R.2.length c2], .bool ok]) ∧ OwnI w'' w'.heap.size (.slice a1 R.1.length c1) R.1 ∧ OwnI w'' y (.slice a2 R.2.length c2) R.2 ∧ w'.heap.size ≤ y ∧ (∀ k, (Value.slice a1 R.1.length c1).ownBlock = some k → k < y) ∧ Below w'.heap.size w' w'') := fun w' h => by rw [hR, hok]; exact implR _ _ _ _ z w' h.evs
  have TS : Hid (∀ w', OwnE w' w.heap.size g c A → Calls Try.prog 9 #[.slice (some ⟨g, 0, none⟩) A.length c, .int .i64 z] w' fun r w'' => ∃ a1 c1 a2 c2, r = .returned (.tuple #[.agg #[.slice a1 R.1.length c1, .slice a2 R.2.length c2], .bool ok]) ∧ OwnI w'' w'.heap.size (.slice a1 R.1.length c1) R.1 ∧ OwnI w'' w'.heap.size (.slice a2 R.2.length c2) R.2 ∧ Below w'.heap.size w' w'') := fun w' h => by rw [hR, hok]; exact specR _ _ _ _ z w' h.evs
  have TP : Hid (∀ w', OwnE w' w.heap.size g c A → ok = true → ∃ okp, Calls Try.prog 8 #[.slice (some ⟨g, 0, none⟩) A.length c, .int .i64 (z - 1)] w' fun r w'' => ∃ a1 c1 a2 c2 y, r = .returned (.tuple #[.agg #[.slice a1 P.1.length c1, .slice a2 P.2.length c2], .bool okp]) ∧ OwnI w'' w'.heap.size (.slice a1 P.1.length c1) P.1 ∧ OwnI w'' y (.slice a2 P.2.length c2) P.2 ∧ w'.heap.size ≤ y ∧ (∀ k, (Value.slice a1 P.1.length c1).ownBlock = some k → k < y) ∧ Below w'.heap.size w' w'') := fun w' h _ => ⟨_, by rw [hP]; exact implR _ _ _ _ (z - 1) w' h.evs⟩
  have TD : Hid (ok = true → 1 ≤ z → ∀ j, j < A.length → (A.getD j evZ).a = z → (A.getD j evZ).c = 2 → hasI P.2 (A.getD j evZ).b = true → hasI R.1 (A.getD j evZ).d = false ∧ hasI R.2 (A.getD j evZ).d = false) := fun h1 h2 j hj q1 q2 q3 => by
    rw [hR]
    rw [hP] at q3
    exact drop_res (D := fun i => A.getD i evZ) (by rw [← hok]; exact h1) h2 hj q1 q2 q3
  have TZ : Hid (ok = true → z ≤ 20) := fun h => by rw [hok] at h; exact (rosB_parts h).2.2
  obtain ⟨R1, R2⟩ := R
  obtain ⟨P1, P2⟩ := P
  clear hR hP hok
  have hokn : (ok != ok) = false := by simp
  have hoke : (ok == ok) = true := by simp
  go_wp2_with fail
  refine (TI.out w2 oA).mono ?_
  rintro r w3 ⟨a1, c1, a2, c2, y, rfl, o1, o2, hy, _, hB3⟩
  have b3 : Below w.heap.size w w3 := b2.trans (hB3.mono b2.size)
  obtain ⟨x3, hx3⟩ : ∃ x3, x3 = w3.alloc (.cells #[.slice a1 R1.length c1, .slice a2 R2.length c2] 29) := ⟨_, rfl⟩
  have hb3 : Below w3.heap.size w3 x3 := by rw [hx3]; exact (Below.refl _ _).alloc (Nat.le_refl _) _
  have p3 : x3.heap[w3.heap.size]? = some (.cells #[.slice a1 R1.length c1, .slice a2 R2.length c2] 29 (0, 0)) := by rw [hx3]; exact heap_alloc_new _ _
  have H3 : Hid (OwnE x3 w.heap.size g c A ∧ RdI x3 (.slice a1 R1.length c1) R1 ∧ RdI x3 (.slice a2 R2.length c2) R2 ∧ x3.heap[w3.heap.size]? = some (.cells #[.slice a1 R1.length c1, .slice a2 R2.length c2] 29 (0, 0)) ∧ Below w.heap.size w x3) := ⟨(oA.below hB3).below hb3, (o1.below hb3).rd, (o2.below hb3).rd, p3, b3.trans (hb3.mono b3.size)⟩
  have HX3 := (show Hid _ from hx3)
  clear hx3 hb3 p3 o1 o2 hy b3 hB3 oA b2
  go_wp2_with fail
  rw [← HX3.out]
  clear HX3
  refine (TS.out x3 H3.out.1).mono ?_
  rintro r w4 ⟨a1s, c1s, a2s, c2s, rfl, _, _, hB4⟩
  obtain ⟨x4, hx4⟩ : ∃ x4, x4 = w4.alloc (.cells #[.slice a1s R1.length c1s, .slice a2s R2.length c2s] 29) := ⟨_, rfl⟩
  have hb4 : Below w4.heap.size w4 x4 := by rw [hx4]; exact (Below.refl _ _).alloc (Nat.le_refl _) _
  have HX4 := (show Hid _ from hx4)
  have hB4 : Below x3.heap.size x3 x4 := hB4.trans (hb4.mono hB4.size)
  clear hx4 hb4
  have H4 : Hid (OwnE x4 w.heap.size g c A ∧ RdI x4 (.slice a1 R1.length c1) R1 ∧ RdI x4 (.slice a2 R2.length c2) R2 ∧ x4.heap[w3.heap.size]? = some (.cells #[.slice a1 R1.length c1, .slice a2 R2.length c2] 29 (0, 0)) ∧ Below w.heap.size w x4) := by
    obtain ⟨i1, i2, i3, i4, i5⟩ := H3.out
    exact ⟨i1.below hB4, i2.below hB4, i3.below hB4, (hB4.block _ (lt_of_block i4)).trans i4, i5.trans (hB4.mono i5.size)⟩
  clear hB4 H3
  cases hk : ok with
  | false =>
    subst hk
    go_wp2
    go_ret
    exact ⟨rfl, by rw [← HX4.out]; exact H4.out.2.2.2.2⟩
  | true =>
  subst hk
  by_cases hz : z < 1
  · have hzd : decide (z < 1) = true := decide_eq_true hz
    go_wp2
    go_ret
    exact ⟨rfl, by rw [← HX4.out]; exact H4.out.2.2.2.2⟩
  have hzd : decide (z < 1) = false := decide_eq_false hz
  have hz20 := TZ.out (by trivial)
  have hwz : IntKind.i64.wrap (z - 1) = z - 1 := by rw [IntKind.wrap_i64]; omega
  obtain ⟨okp, TP1⟩ := TP.out x4 H4.out.1 (by trivial)
  have HTP : Hid (Calls Try.prog 8 #[.slice (some ⟨g, 0, none⟩) A.length c, .int .i64 (z - 1)] x4 fun r w'' => ∃ a1 c1 a2 c2 y, r = .returned (.tuple #[.agg #[.slice a1 P1.length c1, .slice a2 P2.length c2], .bool okp]) ∧ OwnI w'' x4.heap.size (.slice a1 P1.length c1) P1 ∧ OwnI w'' y (.slice a2 P2.length c2) P2 ∧ x4.heap.size ≤ y ∧ (∀ k, (Value.slice a1 P1.length c1).ownBlock = some k → k < y) ∧ Below x4.heap.size x4 w'') := TP1
  have HZ1 : Hid (1 ≤ z) := by show _ ≤ _; omega
  clear TP TP1 hz TI TS TZ
  go_wp2_with fail
  rw [← HX4.out]
  clear HX4
  refine HTP.out.mono ?_
  rintro r w5 ⟨a1p, c1p, a2p, c2p, yp, rfl, o1, o2, hy, _, hB5⟩
  clear HTP
  obtain ⟨x5, hx5⟩ : ∃ x5, x5 = w5.alloc (.cells #[.slice a1p P1.length c1p, .slice a2p P2.length c2p] 29) := ⟨_, rfl⟩
  have hb5 : Below w5.heap.size w5 x5 := by rw [hx5]; exact (Below.refl _ _).alloc (Nat.le_refl _) _
  have p5 : x5.heap[w5.heap.size]? = some (.cells #[.slice a1p P1.length c1p, .slice a2p P2.length c2p] 29 (0, 0)) := by rw [hx5]; exact heap_alloc_new _ _
  have hB45 : Below x4.heap.size x4 x5 := hB5.trans (hb5.mono hB5.size)
  have H5 : Hid (∀ wr, Below x5.heap.size x5 wr → Lies wr g 0 A ∧ RdI wr (.slice a1 R1.length c1) R1 ∧ RdI wr (.slice a2 R2.length c2) R2 ∧ wr.heap[w3.heap.size]? = some (.cells #[.slice a1 R1.length c1, .slice a2 R2.length c2] 29 (0, 0)) ∧ RdI wr (.slice a2p P2.length c2p) P2 ∧ wr.heap[w5.heap.size]? = some (.cells #[.slice a1p P1.length c1p, .slice a2p P2.length c2p] 29 (0, 0)) ∧ Below w.heap.size w wr) := fun wr hB => by
    obtain ⟨i1, i2, i3, i4, i5⟩ := H4.out
    have hB4r : Below x4.heap.size x4 wr := hB45.trans (hB.mono hB45.size)
    exact ⟨(i1.below hB4r).lies.1, i2.below hB4r, i3.below hB4r, (hB4r.block _ (lt_of_block i4)).trans i4, ((o2.below hb5).below hB).rd, (hB.block _ (lt_of_block p5)).trans p5, i5.trans (hB4r.mono i5.size)⟩
  have HX5 := (show Hid _ from hx5)
  have hcA : A.length ≤ c ∧ c ≤ 9223372036854775807 := H4.out.1.caps
  clear hx5 hb5 p5 o1 o2 hy hB5 hB45 H4 hzd
  obtain ⟨hcA1, hcA2⟩ := hcA
  obtain ⟨n, hn⟩ : ∃ n, n = A.length := ⟨_, rfl⟩
  have HNL : Hid (n = A.length) := hn
  rw [← hn] at hcA1 hAl ⊢
  clear hn
  go_wp2
  rw [← HX5.out]
  clear HX5
  go_loopw [11] (fun i wr => ∃ (k : Nat), k ≤ n ∧ i = .int .i64 k ∧ Hid (Below x5.heap.size x5 wr)) (fun i _ => n - (intOf i).toNat)
  case atStart => exact ⟨0, Nat.zero_le _, rfl, Below.refl _ _⟩
  case round =>
    obtain ⟨k, hk, rfl, HB⟩ := hrel
    obtain ⟨hl, r1, r2, g3, r5, g5, bb⟩ := H5.out wr HB.out
    by_cases hlt : k < n
    · have hltI : (k : Int) < (n : Int) := by omega
      have hkA : k < A.length := by rw [← HNL.out]; exact hlt
      obtain ⟨q0, q1, q2, q3⟩ := hl k hkA
      obtain ⟨x, hx⟩ : ∃ x, x = A.getD k evZ := ⟨_, rfl⟩
      rw [← hx] at q0 q1 q2 q3
      have HTD : Hid (x.a = z → x.c = 2 → hasI P2 x.b = true → hasI R1 x.d = false ∧ hasI R2 x.d = false) := fun h1 h2 h3 => by rw [hx] at h1 h2 h3 ⊢; exact TD.out (by trivial) HZ1.out k hkA h1 h2 h3
      rw [Nat.zero_add] at q0 q1 q2 q3
      have s0 : ∀ s : Later wr, s.val.cell? ⟨g, k * 4, none⟩ = some (.int .i64 x.a) := fun s => s.cell q0
      have s1 : ∀ s : Later wr, s.val.cell? ⟨g, k * 4 + 1, none⟩ = some (.int .i64 x.b) := fun s => s.cell q1
      have s2 : ∀ s : Later wr, s.val.cell? ⟨g, k * 4 + 2, none⟩ = some (.int .i64 x.c) := fun s => s.cell q2
      have s3 : ∀ s : Later wr, s.val.cell? ⟨g, k * 4 + 3, none⟩ = some (.int .i64 x.d) := fun s => s.cell q3
      have t0 : ∀ s : Later wr, s.val.cell? ⟨w3.heap.size, 0, none⟩ = some (.slice a1 R1.length c1) := fun s => s.cell (cellN g3)
      have t1 : ∀ s : Later wr, s.val.cell? ⟨w3.heap.size, 1, none⟩ = some (.slice a2 R2.length c2) := fun s => s.cell (cellN g3)
      have t2 : ∀ s : Later wr, s.val.cell? ⟨w5.heap.size, 1, none⟩ = some (.slice a2p P2.length c2p) := fun s => s.cell (cellN g5)
      have hne := Later.any wr
      obtain ⟨pb, hpb⟩ : ∃ pb, pb = hasI P2 x.b := ⟨_, rfl⟩
      have HXB : Hid (∀ t : Later wr, Calls Try.prog 15 #[.slice a2p P2.length c2p, .int .i64 x.b] t.val fun e w' => e = .returned (.bool pb) ∧ Below t.val.heap.size t.val w') := fun t => hasInt_later hpb t r5
      clear hx hl q0 q1 q2 q3 g3 g5 bb hkA TD H5
      by_cases ha : x.a = z
      · have ha1 : (x.a == z) = true := by simp [ha]
        by_cases hc2 : x.c = 2
        · have hc1 : (x.c == 2) = true := by simp [hc2]
          cases hpc : pb with
          | false =>
            subst hpc
            clear ha hc2 hpb HTD r1 r2 r5
            go_wp2
            refine wp_region_later (by kernel_rfl) (by kernel_rfl) ?_
            repeat (go_big_quiet_step (first | (rename_i t; with_reducible exact Calls.later (HXB.out t))))
            refine wpQuiet_nil ?_
            rintro _ ⟨s5, rfl⟩
            have HF : Hid (Below x5.heap.size x5 s5.val) := HB.out.trans (s5.ok.mono HB.out.size)
            obtain ⟨w6, hw6⟩ : ∃ w6, w6 = s5.val := ⟨_, rfl⟩
            rw [← hw6] at HF ⊢
            clear hw6 s0 s1 s2 s3 t0 t1 t2 hne HXB s5
            go_wp2
            go_roundw
            case rel => exact ⟨k + 1, by omega, by go_num, HF⟩
            case measure => simp [intOf]; omega
          | true =>
            subst hpc
            obtain ⟨d1, d2⟩ := HTD.out ha hc2 hpb.symm
            have HXR : Hid (∀ t : Later wr, Calls Try.prog 15 #[.slice a1 R1.length c1, .int .i64 x.d] t.val fun e w' => e = .returned (.bool false) ∧ Below t.val.heap.size t.val w') := fun t => hasInt_later d1.symm t r1
            have HXS : Hid (∀ t : Later wr, Calls Try.prog 15 #[.slice a2 R2.length c2, .int .i64 x.d] t.val fun e w' => e = .returned (.bool false) ∧ Below t.val.heap.size t.val w') := fun t => hasInt_later d2.symm t r2
            clear ha hc2 hpb HTD r1 r2 r5 d1 d2
            go_wp2
            refine wp_region_later (by kernel_rfl) (by kernel_rfl) ?_
            repeat (go_big_quiet_step (first | (rename_i t; with_reducible exact Calls.later (HXB.out t)) | (rename_i t; with_reducible exact Calls.later (HXR.out t)) | (rename_i t; with_reducible exact Calls.later (HXS.out t))))
            refine wpQuiet_nil ?_
            rintro _ ⟨s5, rfl⟩
            have HF : Hid (Below x5.heap.size x5 s5.val) := HB.out.trans (s5.ok.mono HB.out.size)
            obtain ⟨w6, hw6⟩ : ∃ w6, w6 = s5.val := ⟨_, rfl⟩
            rw [← hw6] at HF ⊢
            clear hw6 s0 s1 s2 s3 t0 t1 t2 hne HXB HXR HXS s5
            go_wp2
            go_roundw
            case rel => exact ⟨k + 1, by omega, by go_num, HF⟩
            case measure => simp [intOf]; omega
        · have hc1 : (x.c == 2) = false := by simp [hc2]
          clear ha hc2 hpb HTD r1 r2 r5
          go_wp2
          refine wp_region_later (by kernel_rfl) (by kernel_rfl) ?_
          repeat (go_big_quiet_step (fail))
          refine wpQuiet_nil ?_
          rintro _ ⟨s5, rfl⟩
          have HF : Hid (Below x5.heap.size x5 s5.val) := HB.out.trans (s5.ok.mono HB.out.size)
          obtain ⟨w6, hw6⟩ : ∃ w6, w6 = s5.val := ⟨_, rfl⟩
          rw [← hw6] at HF ⊢
          clear hw6 s0 s1 s2 s3 t0 t1 t2 hne HXB s5
          go_wp2
          go_roundw
          case rel => exact ⟨k + 1, by omega, by go_num, HF⟩
          case measure => simp [intOf]; omega
      · have ha1 : (x.a == z) = false := by simp [ha]
        clear ha hpb HTD r1 r2 r5
        go_wp2
        refine wp_region_later (by kernel_rfl) (by kernel_rfl) ?_
        repeat (go_big_quiet_step (fail))
        refine wpQuiet_nil ?_
        rintro _ ⟨s5, rfl⟩
        have HF : Hid (Below x5.heap.size x5 s5.val) := HB.out.trans (s5.ok.mono HB.out.size)
        obtain ⟨w6, hw6⟩ : ∃ w6, w6 = s5.val := ⟨_, rfl⟩
        rw [← hw6] at HF ⊢
        clear hw6 s0 s1 s2 s3 t0 t1 t2 hne HXB s5
        go_wp2
        go_roundw
        case rel => exact ⟨k + 1, by omega, by go_num, HF⟩
        case measure => simp [intOf]; omega
    · have hke : k = n := by omega
      subst hke
      have HBB := (show Hid _ from bb)
      clear hl r1 r2 g3 r5 g5 bb
      go_wp2
      go_ret
      exact ⟨rfl, HBB.out⟩

set_option maxRecDepth 100000 in
theorem drops_lifted (os : Os) (started : os.Started) (H : Type) (enc : TypeId × Value → H) :
    ReturnsInHanded {} Try.checked os 4 .any (Rows.fnDropsWinSpec.pre6 enc Try.prog Try.f4 Rows.fnDropsWinRow.domain false) (Rows.fnDropsWinSpec.post enc Try.prog Try.f4 false true false false) := by
  refine returnsInHanded_of_change (C := Try.checked) own started (by kernel_rfl) Try.func4
    (ChangeSpec.witness6 (enc := enc) (C := Try.checked) false ⟨#[], #[.slice none 0 0], []⟩ 8 (by kernel_rfl) (by kernel_rfl) (by kernel_rfl) (by kernel_rfl)) ?_
  intro W base args ds gs before hval0 hW hcnd _
  have hval : ∀ (j : Nat) t v, Try.f4.params[j]? = some t → args[j]? = some v → Value.okWide Try.prog W .any base t v := hval0
  have hW' := hW
  obtain ⟨p, q, hA0, hV, rfl, hfz, hnd⟩ := hW
  have hA : DataW.TrodAll enc Try.prog W 0 (fun _ => true) true Try.f4.params.toList args.toList ds p := hA0
  rw [Try.params4] at hA hval
  obtain ⟨v0, vs0, d0, ds0, p0, q0, hargs, rfl, rfl, h0, r0⟩ := trodAll_cons hA
  obtain ⟨rfl, rfl, rfl⟩ := trodAll_nil r0
  obtain rfl : args = #[v0] := by cases args; simp_all
  obtain ⟨rfl, rfl⟩ := trodVars_none hV
  obtain ⟨a0, len0, cap0, rfl⟩ := okWide_slice Try.underlying22 (hval 0 22 v0 rfl rfl)
  have k0 := h0
  have lt0 : ∀ x ∈ p0, x.block < W.heap.size := by obtain ⟨m, hm⟩ := k0; exact DataW.trod_lt m _ _ _ hm
  obtain ⟨Z, w0⟩ : ∃ Z, IsU8 W a0 len0 cap0 Z := by
    obtain ⟨fuel, hf⟩ := h0
    obtain ⟨a, len, cap, Z, e, hI⟩ := open_u8 (by simpa [Value.cells] using hf)
    simp at e
    obtain ⟨rfl, rfl, rfl⟩ := e
    exact ⟨Z, hI⟩
  clear hA0 hval0
  refine (drops_walk W w0).mono fun e W' ⟨he, bel⟩ => ?_
  subst he
  exact ⟨_, rfl, _, _, _, [], _, [], hW', trodAll_mk1 (shut_bool Try.underlying4 _), (trodAll_cons_mk (Below.trod laidOut (by kernel_rfl) (of_decide_eq_true (by kernel_rfl)) k0 bel lt0) trodAll_mk0), rfl, bel.frame _, fun h => by cases h⟩

theorem drops_proved : Rows.FnDropsWinSaid :=
  OpenClaim.holds_of_wide 4 Try.f4 rfl rfl rfl rfl rfl rfl rfl ⟨rfl, rfl, rfl, rfl, rfl⟩ rfl rfl rfl rfl rfl (by kernel_rfl) Try.func4 (by kernel_rfl)
    (of_decide_eq_true (by kernel_rfl)) (by unfold Func.isWrapper; first | (rw [if_pos (by decide +kernel)]; kernel_rfl) | (rw [if_neg (by decide +kernel)]; exact ⟨rfl, rfl⟩))
    (fun os started H enc _ => drops_lifted os started H enc)
#print axioms drops_proved
end Go.Proofs.Ythdlgnbdppijkaa
