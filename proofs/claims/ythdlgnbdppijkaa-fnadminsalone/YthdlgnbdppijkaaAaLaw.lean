/-
  The statement FnAdminsAloneSaid: at every code the law returns true, and the code reads afterwards as it read before. No condition.
-/
import Derived.Test.YthdlgnbdppijkaaRPl
import Derived.Test.YthdlgnbdppijkaaHInt
import Derived.Test.YthdlgnbdppijkaaDrawR
import Derived.Test.YthdlgnbdppijkaaOpenU
namespace Go.Proofs.Ythdlgnbdppijkaa
open Go.ChangeShapes Go.WideShapes Go.ChangeAt Go.RowKit Go.Deep
set_option linter.unusedVariables false

theorem hasInt_later {v : Value} {L : List Int} {n : Int} {w : World} {y : Bool} (hy : y = hasI L n) (t : Later w) (h : RdI w v L) : Calls Try.prog 15 #[v, .int .i64 n] t.val fun e w' => e = .returned (.bool y) ∧ Below t.val.heap.size t.val w' := by
  rw [hy]
  refine (hasInt_any v L n t.val (h.below t.ok)).mono ?_
  rintro e w' ⟨rfl, hw⟩
  rw [hw]
  exact ⟨rfl, Below.refl _ _⟩

theorem sameInts_later {v v' : Value} {L : List Int} {w : World} (t : Later w) (h : RdI w v L) (h' : RdI w v' L) : Calls Try.prog 10 #[v, v'] t.val fun e w' => e = .returned (.bool true) ∧ Below t.val.heap.size t.val w' := sameI_same v v' L t.val (h.below t.ok) (h'.below t.ok)
theorem own_form2R {w : World} {base : Nat} {v : Value} {n : Nat} {L : List Ev} (h : w.ownsRow base 39 4 v n (cellsL L)) (hl : L.length = n) (hn : v ≠ .slice none 0 0) : ∃ g gc, v = .slice (some ⟨g, 0, none⟩) L.length gc ∧ OwnE w base g gc L := own_form h hl.symm rfl hn

set_option maxRecDepth 10000 in
set_option maxHeartbeats 4000000 in
theorem alone_walk {a : Option Addr} {len cap : Nat} {Z : Nat → Int} (w : World) (hU : IsU8 w a len cap Z) :
    Calls Try.prog 5 #[.slice a len cap] w fun e w' => e = .returned (.bool true) ∧ Below w.heap.size w w' := by
  by_cases hbig : (1048576 : Int) < (len : Int)
  · go_enter Try.func5, Try.ntmps5
    go_wp2_with fail
    refine (big_any _ _ _ _).mono ?_
    rintro e w1 ⟨rfl, hw⟩
    rw [hw, decide_eq_true hbig]
    go_wp2
    go_ret
    exact ⟨rfl, Below.refl _ _⟩
  have HN : Hid (decide ((1048576 : Int) < (len : Int)) = false) := decide_eq_false hbig
  clear hbig
  obtain ⟨i0, hi, hz0, hz1, hz2⟩ := info_parts infoE
  go_enter Try.func5, Try.ntmps5
  go_wp2_with fail
  refine (big_any _ _ _ _).mono ?_
  rintro e w1 ⟨rfl, hw⟩
  rw [hw, HN.out]
  clear hw w1 HN
  go_wp2_with fail
  refine (drawRoster_any hU).mono ?_
  rintro e w2 ⟨g, c, A, z, rfl, hAl, oA, b2⟩
  clear hU
  obtain ⟨R, hR⟩ : ∃ R, R = resR (fun i => A.getD i evZ) A.length z := ⟨_, rfl⟩
  obtain ⟨ok, hok⟩ : ∃ ok, ok = rosB (fun i => A.getD i evZ) A.length z := ⟨_, rfl⟩
  have TI : Hid (∀ w', OwnE w' w.heap.size g c A → Calls Try.prog 8 #[.slice (some ⟨g, 0, none⟩) A.length c, .int .i64 z] w' fun r w'' => ∃ a1 c1 a2 c2 y, r = .returned (.tuple #[.agg #[.slice a1 R.1.length c1, .slice a2 R.2.length c2], .bool ok]) ∧ OwnI w'' w'.heap.size (.slice a1 R.1.length c1) R.1 ∧ OwnI w'' y (.slice a2 R.2.length c2) R.2 ∧ w'.heap.size ≤ y ∧ (∀ k, (Value.slice a1 R.1.length c1).ownBlock = some k → k < y) ∧ Below w'.heap.size w' w'') := fun w' h => by rw [hR, hok]; exact implR _ _ _ _ z w' h.evs
  have TS : Hid (∀ w', OwnE w' w.heap.size g c A → Calls Try.prog 9 #[.slice (some ⟨g, 0, none⟩) A.length c, .int .i64 z] w' fun r w'' => ∃ a1 c1 a2 c2, r = .returned (.tuple #[.agg #[.slice a1 R.1.length c1, .slice a2 R.2.length c2], .bool ok]) ∧ OwnI w'' w'.heap.size (.slice a1 R.1.length c1) R.1 ∧ OwnI w'' w'.heap.size (.slice a2 R.2.length c2) R.2 ∧ Below w'.heap.size w' w'') := fun w' h => by rw [hR, hok]; exact specR _ _ _ _ z w' h.evs
  have TP : Hid (∀ w' y, OwnE w' w.heap.size g c A → Calls Try.prog 8 #[.slice (some ⟨g, 0, none⟩) A.length c, .int .i64 (y - 1)] w' fun r w'' => ∃ a1 c1 a2 c2 z, r = .returned (.tuple #[.agg #[.slice a1 (resR (fun i => A.getD i evZ) A.length (y - 1)).1.length c1, .slice a2 (resR (fun i => A.getD i evZ) A.length (y - 1)).2.length c2], .bool (rosB (fun i => A.getD i evZ) A.length (y - 1))]) ∧ OwnI w'' w'.heap.size (.slice a1 (resR (fun i => A.getD i evZ) A.length (y - 1)).1.length c1) (resR (fun i => A.getD i evZ) A.length (y - 1)).1 ∧ OwnI w'' z (.slice a2 (resR (fun i => A.getD i evZ) A.length (y - 1)).2.length c2) (resR (fun i => A.getD i evZ) A.length (y - 1)).2 ∧ w'.heap.size ≤ z ∧ (∀ k, (Value.slice a1 (resR (fun i => A.getD i evZ) A.length (y - 1)).1.length c1).ownBlock = some k → k < z) ∧ Below w'.heap.size w' w'') := fun w' y h => implR _ _ _ _ (y - 1) w' h.evs
  have TQ : Hid (∀ w' g' gc' L, ok = true → L = slimTo (fun i => A.getD i evZ) A.length A.length → OwnE w' w.heap.size g' gc' L → Calls Try.prog 8 #[.slice (some ⟨g', 0, none⟩) L.length gc', .int .i64 z] w' fun r w'' => ∃ a1 c1 a2 c2 y, r = .returned (.tuple #[.agg #[.slice a1 R.1.length c1, .slice a2 R.2.length c2], .bool true]) ∧ OwnI w'' w'.heap.size (.slice a1 R.1.length c1) R.1 ∧ OwnI w'' y (.slice a2 R.2.length c2) R.2 ∧ w'.heap.size ≤ y ∧ (∀ k, (Value.slice a1 R.1.length c1).ownBlock = some k → k < y) ∧ Below w'.heap.size w' w'') := fun w' g' gc' L ho hL h => by
    have hs := slim_res (fun i => A.getD i evZ) A.length (e := z) (by rw [← hok]; exact ho)
    have := implR (some ⟨g', 0, none⟩) L.length gc' (fun i => L.getD i evZ) z w' h.evs
    rw [hL] at this ⊢
    rw [hs.1, hs.2, ← hR] at this
    exact this
  have TF : Hid (ok = true → ∀ j, j < A.length → 1 ≤ (A.getD j evZ).a ∧ (A.getD j evZ).a ≤ 20) := fun h j hj => by
    rw [hok] at h
    exact fine_rng (chainB_fine (rosB_parts h).1 j hj)
  obtain ⟨R1, R2⟩ := R
  clear hR hok
  have hokn : (ok != ok) = false := by simp
  have hoke : (ok == ok) = true := by simp
  go_wp2_with fail
  refine (TI.out w2 oA).mono ?_
  rintro r w3 ⟨a1, c1, a2, c2, y, rfl, o1, o2, hy, _, hB3⟩
  have b3 : Below w.heap.size w w3 := b2.trans (hB3.mono b2.size)
  obtain ⟨x3, hx3⟩ : ∃ x3, x3 = w3.alloc (.cells #[.slice a1 R1.length c1, .slice a2 R2.length c2] 29) := ⟨_, rfl⟩
  have hb3 : Below w3.heap.size w3 x3 := by rw [hx3]; exact (Below.refl _ _).alloc (Nat.le_refl _) _
  have p3 : x3.heap[w3.heap.size]? = some (.cells #[.slice a1 R1.length c1, .slice a2 R2.length c2] 29 (0, 0)) := by rw [hx3]; exact heap_alloc_new _ _
  have H3 : Hid (OwnE x3 w.heap.size g c A ∧ RdI x3 (.slice a1 R1.length c1) R1 ∧ RdI x3 (.slice a2 R2.length c2) R2 ∧ x3.heap[w3.heap.size]? = some (.cells #[.slice a1 R1.length c1, .slice a2 R2.length c2] 29 (0, 0)) ∧ Below w.heap.size w x3) := ⟨(oA.below hB3).below hb3, (o1.below hb3).rd, (o2.below hb3).rd, p3, b3.trans (hb3.mono b3.size)⟩
  have HX3 := (show Hid _ from hx3)
  clear hx3 hb3 p3 o1 o2 hy b3 hB3 oA b2 TI
  go_wp2_with fail
  rw [← HX3.out]
  clear HX3
  refine (TS.out x3 H3.out.1).mono ?_
  rintro r w4 ⟨a1s, c1s, a2s, c2s, rfl, _, _, hB4⟩
  obtain ⟨x4, hx4⟩ : ∃ x4, x4 = w4.alloc (.cells #[.slice a1s R1.length c1s, .slice a2s R2.length c2s] 29) := ⟨_, rfl⟩
  have hb4 : Below w4.heap.size w4 x4 := by rw [hx4]; exact (Below.refl _ _).alloc (Nat.le_refl _) _
  have HX4 := (show Hid _ from hx4)
  have hB4 : Below x3.heap.size x3 x4 := hB4.trans (hb4.mono hB4.size)
  have HS4 : Hid (w4.heap.size + 1 = x4.heap.size) := by show _ = _; rw [hx4]; simp
  clear hx4 hb4
  have H4 : Hid (∀ v, Below x4.heap.size x4 v → OwnE v w.heap.size g c A ∧ RdI v (.slice a1 R1.length c1) R1 ∧ RdI v (.slice a2 R2.length c2) R2 ∧ v.heap[w3.heap.size]? = some (.cells #[.slice a1 R1.length c1, .slice a2 R2.length c2] 29 (0, 0)) ∧ Below w.heap.size w v) := fun v hv => by
    obtain ⟨i1, i2, i3, i4, i5⟩ := H3.out
    have hB : Below x3.heap.size x3 v := hB4.trans (hv.mono hB4.size)
    exact ⟨i1.below hB, i2.below hB, i3.below hB, (hB.block _ (lt_of_block i4)).trans i4, i5.trans (hB.mono i5.size)⟩
  clear hB4 H3 TS
  cases hk : ok with
  | false =>
    subst hk
    have HBB : Hid (Below w.heap.size w x4) := (H4.out x4 (Below.refl _ _)).2.2.2.2
    go_wp2
    go_ret
    exact ⟨rfl, by rw [← HX4.out]; exact HBB.out⟩
  | true =>
  subst hk
  obtain ⟨n, hn⟩ : ∃ n, n = A.length := ⟨_, rfl⟩
  have HNL : Hid (n = A.length) := hn
  have hcA : A.length ≤ c ∧ c ≤ 9223372036854775807 := (H4.out x4 (Below.refl _ _)).1.caps
  obtain ⟨hcA1, hcA2⟩ := hcA
  rw [← hn] at hcA1 hAl ⊢
  clear hn
  go_wp2
  rw [← HX4.out, HS4.out]
  clear HX4 HS4
  go_loopw [9, 10] (fun v i wr => ∃ (k g' gc' : Nat), k ≤ n ∧ i = .int .i64 k ∧ v = .slice (some ⟨g', 0, none⟩) (slimTo (fun i => A.getD i evZ) A.length k).length gc' ∧ Hid (OwnE wr x4.heap.size g' gc' (slimTo (fun i => A.getD i evZ) A.length k) ∧ Below x4.heap.size x4 wr)) (fun _ i _ => n - (intOf i).toNat)
  case atStart => exact ⟨0, x4.heap.size, 0, Nat.zero_le _, rfl, rfl, World.ownsRow_made x4 #[] 0 (Nat.le_refl _) (by decide) rfl, (Below.refl _ _).alloc (Nat.le_refl _) _⟩
  case round =>
    obtain ⟨k, g', gc', hk, rfl, rfl, HI⟩ := hrel
    by_cases hlt : k < n
    · have hltI : (k : Int) < (n : Int) := by omega
      have hkA : k < A.length := by rw [← HNL.out]; exact hlt
      obtain ⟨x, hx⟩ : ∃ x, x = A.getD k evZ := ⟨_, rfl⟩
      have hxa : 1 ≤ x.a ∧ x.a ≤ 20 := by rw [hx]; exact TF.out (by trivial) k hkA
      have HQ : Hid (∀ v, Below x4.heap.size x4 v → EvAt v g (k * 4) x) := fun v hv => by
        have := (H4.out v hv).1.lies.1 k hkA
        rw [← hx, Nat.zero_add] at this
        exact this
      obtain ⟨q0, q1, q2, q3⟩ := HQ.out wr HI.out.2
      have hwz : IntKind.i64.wrap (x.a - 1) = x.a - 1 := by rw [IntKind.wrap_i64]; omega
      obtain ⟨P, hP⟩ : ∃ P, P = resR (fun i => A.getD i evZ) A.length (x.a - 1) := ⟨_, rfl⟩
      obtain ⟨okp, hokp⟩ : ∃ okp, okp = rosB (fun i => A.getD i evZ) A.length (x.a - 1) := ⟨_, rfl⟩
      have HTP : Hid (Calls Try.prog 8 #[.slice (some ⟨g, 0, none⟩) n c, .int .i64 (x.a - 1)] wr fun r w'' => ∃ a1 c1 a2 c2 z, r = .returned (.tuple #[.agg #[.slice a1 P.1.length c1, .slice a2 P.2.length c2], .bool okp]) ∧ OwnI w'' wr.heap.size (.slice a1 P.1.length c1) P.1 ∧ OwnI w'' z (.slice a2 P.2.length c2) P.2 ∧ wr.heap.size ≤ z ∧ (∀ k, (Value.slice a1 P.1.length c1).ownBlock = some k → k < z) ∧ Below wr.heap.size wr w'') := by rw [hP, hokp, HNL.out]; exact TP.out wr x.a (H4.out wr HI.out.2).1
      have HKB : Hid (hasI P.2 x.b = keepB (fun i => A.getD i evZ) A.length ((fun i => A.getD i evZ) k)) := by
        show _ = keepB _ _ (A.getD k evZ)
        unfold keepB
        rw [← hx, ← hP]
      obtain ⟨P1, P2⟩ := P
      obtain ⟨m, hm⟩ : ∃ m, m = (slimTo (fun i => A.getD i evZ) A.length k).length := ⟨_, rfl⟩
      have hm10 : m ≤ 10 := by rw [hm]; have := slimTo_len (fun i => A.getD i evZ) A.length k; omega
      have HM : Hid (m = (slimTo (fun i => A.getD i evZ) A.length k).length) := hm
      have HXX : Hid (x = A.getD k evZ) := hx
      rw [← hm]
      clear hm hP hokp hx
      go_wp2_with fail
      refine HTP.out.mono ?_
      rintro r w5 ⟨a1p, c1p, a2p, c2p, yp, rfl, o1, o2, hy, _, hB5⟩
      obtain ⟨x5, hx5⟩ : ∃ x5, x5 = w5.alloc (.cells #[.slice a1p P1.length c1p, .slice a2p P2.length c2p] 29) := ⟨_, rfl⟩
      have hb5 : Below w5.heap.size w5 x5 := by rw [hx5]; exact (Below.refl _ _).alloc (Nat.le_refl _) _
      have p5 : x5.heap[w5.heap.size]? = some (.cells #[.slice a1p P1.length c1p, .slice a2p P2.length c2p] 29 (0, 0)) := by rw [hx5]; exact heap_alloc_new _ _
      have hBr5 : Below wr.heap.size wr x5 := hB5.trans (hb5.mono hB5.size)
      have H5 : Hid (OwnE x5 x4.heap.size g' gc' (slimTo (fun i => A.getD i evZ) A.length k) ∧ Below x4.heap.size x4 x5 ∧ RdI x5 (.slice a2p P2.length c2p) P2 ∧ x5.heap[w5.heap.size]? = some (.cells #[.slice a1p P1.length c1p, .slice a2p P2.length c2p] 29 (0, 0))) := ⟨HI.out.1.below hBr5, HI.out.2.trans (hBr5.mono HI.out.2.size), (o2.below hb5).rd, p5⟩
      have HX5 := (show Hid _ from hx5)
      clear hx5 hb5 p5 o1 o2 hy hB5 hBr5 HTP q0 q1 q2 q3 HI
      obtain ⟨q0, q1, q2, q3⟩ := HQ.out x5 H5.out.2.1
      have s1 : ∀ s : Later x5, s.val.cell? ⟨g, k * 4 + 1, none⟩ = some (.int .i64 x.b) := fun s => s.cell q1
      have t2 : ∀ s : Later x5, s.val.cell? ⟨w5.heap.size, 1, none⟩ = some (.slice a2p P2.length c2p) := fun s => s.cell (cellN H5.out.2.2.2)
      have hne := Later.any x5
      obtain ⟨pb, hpb⟩ : ∃ pb, pb = hasI P2 x.b := ⟨_, rfl⟩
      have HXB : Hid (∀ t : Later x5, Calls Try.prog 15 #[.slice a2p P2.length c2p, .int .i64 x.b] t.val fun e w' => e = .returned (.bool pb) ∧ Below t.val.heap.size t.val w') := fun t => hasInt_later hpb t H5.out.2.2.1
      have HKB2 : Hid (pb = keepB (fun i => A.getD i evZ) A.length ((fun i => A.getD i evZ) k)) := by show _ = _; rw [hpb]; exact HKB.out
      clear hpb HKB q0 q1 q2 q3
      go_wp2
      rw [← HX5.out]
      clear HX5
      refine wp_region_later (by kernel_rfl) (by kernel_rfl) ?_
      repeat (go_big_quiet_step (first | (rename_i t; with_reducible exact Calls.later (HXB.out t))))
      refine wpQuiet_nil ?_
      rintro _ ⟨s6, rfl⟩
      have H6 : Hid (OwnE s6.val x4.heap.size g' gc' (slimTo (fun i => A.getD i evZ) A.length k) ∧ Below x4.heap.size x4 s6.val) := ⟨H5.out.1.below s6.ok, H5.out.2.1.trans (s6.ok.mono H5.out.2.1.size)⟩
      obtain ⟨w6, hw6⟩ : ∃ w6, w6 = s6.val := ⟨_, rfl⟩
      rw [← hw6] at H6 ⊢
      clear hw6 s1 t2 hne HXB s6 H5
      cases hpc : pb with
      | false =>
        subst hpc
        have HSL := (show Hid _ from slimTo_no (fun i => A.getD i evZ) A.length (k := k) HKB2.out.symm)
        clear HKB2
        go_wp2
        go_roundw
        case rel => exact ⟨k + 1, g', gc', by omega, by go_num, by rw [HSL.out, HM.out], by rw [HSL.out]; exact H6.out⟩
        case measure => simp [intOf]; omega
      | true =>
        subst hpc
        have HSL : Hid (slimTo (fun i => A.getD i evZ) A.length (k + 1) = slimTo (fun i => A.getD i evZ) A.length k ++ [x]) := by
          show _ = _
          rw [slimTo_yes (fun i => A.getD i evZ) A.length (k := k) HKB2.out.symm, HXX.out]
        obtain ⟨q0, q1, q2, q3⟩ := HQ.out w6 H6.out.2
        have HO6 : Hid (w6.ownsRow x4.heap.size 39 4 (.slice (some ⟨g', 0, none⟩) m gc') m (cellsL (slimTo (fun i => A.getD i evZ) A.length k))) := own_form2 H6.out.1 HM.out.symm
        have hc3 : Hid (m + 1 ≤ maxLen) := by show _ ≤ _; unfold maxLen; omega
        have hc4 : Hid ((m + 1) * 32 ≤ 140737488355328) := by show _ ≤ _; omega
        have HS6 : Hid (x4.heap.size ≤ w6.heap.size) := H6.out.2.size
        clear HKB2
        go_wp2_with (first
          | (at_builtin
             refine wpList_append_own _ rfl _ _ 24 rfl x4.heap.size 39 i0 (.agg #[.int .i64 0, .int .i64 0, .int .i64 0, .int .i64 0]) 4 32 Try.underlying24 hi hz0 hz1 hz2 rfl (by decide) _ m _ rfl (HO6.out.alloc _) ⟨w6.heap.size, 0, none⟩ 1 1 (enc4 x) rfl rfl (World.news_of_block (heap_alloc_new _ _)) (by rw [← cellsL_one]; exact oneL _) hc3.out hc4.out (by have := HS6.out; simp; omega) ?_
             intro v7 w7 hown7 hgrow7 hnil7))
        obtain ⟨g7, gc7, rfl, hf7⟩ := own_form hown7 (L := slimTo (fun i => A.getD i evZ) A.length (k + 1)) (by rw [HSL.out, List.length_append, ← HM.out]; rfl) (by rw [HSL.out, cellsL_append, cellsL_one]) (fun e => by have := (hnil7.1 e).1; cases this)
        have HF : Hid (OwnE w7 x4.heap.size g7 gc7 (slimTo (fun i => A.getD i evZ) A.length (k + 1)) ∧ Below x4.heap.size x4 w7) := ⟨hf7, (H6.out.2.alloc H6.out.2.size _).grown hgrow7 (by have := HS6.out; simp; omega) (fun x hx => (HO6.out.lt x hx).1)⟩
        clear hown7 hgrow7 hnil7 hf7 q0 q1 q2 q3
        go_wp2
        go_roundw
        case rel => exact ⟨k + 1, g7, gc7, by omega, by go_num, rfl, HF⟩
        case measure => simp [intOf]; omega
    · have hke : k = n := by omega
      subst hke
      obtain ⟨m, hm⟩ : ∃ m, m = (slimTo (fun i => A.getD i evZ) A.length k).length := ⟨_, rfl⟩
      have h4r := H4.out wr HI.out.2
      have HTQ : Hid (Calls Try.prog 8 #[.slice (some ⟨g', 0, none⟩) m gc', .int .i64 z] wr fun r w'' => ∃ a1 c1 a2 c2 y, r = .returned (.tuple #[.agg #[.slice a1 R1.length c1, .slice a2 R2.length c2], .bool true]) ∧ OwnI w'' wr.heap.size (.slice a1 R1.length c1) R1 ∧ OwnI w'' y (.slice a2 R2.length c2) R2 ∧ wr.heap.size ≤ y ∧ (∀ k, (Value.slice a1 R1.length c1).ownBlock = some k → k < y) ∧ Below wr.heap.size wr w'') := by
        have hL : slimTo (fun i => A.getD i evZ) A.length k = slimTo (fun i => A.getD i evZ) A.length A.length := by rw [HNL.out]
        rw [hm]
        exact TQ.out wr g' gc' _ (by trivial) hL (HI.out.1.base (by have := (H4.out x4 (Below.refl _ _)).2.2.2.2.size; exact this))
      rw [← hm]
      have H4r := (show Hid _ from h4r)
      clear hm h4r HI TQ TP
      go_wp2_with fail
      refine HTQ.out.mono ?_
      rintro r w7 ⟨a1q, c1q, a2q, c2q, yq, rfl, o1, o2, hy, _, hB7⟩
      obtain ⟨x7, hx7⟩ : ∃ x7, x7 = w7.alloc (.cells #[.slice a1q R1.length c1q, .slice a2q R2.length c2q] 29) := ⟨_, rfl⟩
      have hb7 : Below w7.heap.size w7 x7 := by rw [hx7]; exact (Below.refl _ _).alloc (Nat.le_refl _) _
      have p7 : x7.heap[w7.heap.size]? = some (.cells #[.slice a1q R1.length c1q, .slice a2q R2.length c2q] 29 (0, 0)) := by rw [hx7]; exact heap_alloc_new _ _
      have hB : Below wr.heap.size wr x7 := hB7.trans (hb7.mono hB7.size)
      obtain ⟨_, i2, i3, i4, i5⟩ := H4r.out
      have H7 : Hid (∀ v, Below x7.heap.size x7 v → RdI v (.slice a1q R1.length c1q) R1 ∧ RdI v (.slice a1 R1.length c1) R1 ∧ RdI v (.slice a2q R2.length c2q) R2 ∧ RdI v (.slice a2 R2.length c2) R2 ∧ v.heap[w3.heap.size]? = some (.cells #[.slice a1 R1.length c1, .slice a2 R2.length c2] 29 (0, 0)) ∧ v.heap[w7.heap.size]? = some (.cells #[.slice a1q R1.length c1q, .slice a2q R2.length c2q] 29 (0, 0)) ∧ Below w.heap.size w v) := fun v hv => by
        have hBv := hB.trans (hv.mono hB.size)
        exact ⟨((o1.below hb7).below hv).rd, i2.below hBv, ((o2.below hb7).below hv).rd, i3.below hBv, (hBv.block _ (lt_of_block i4)).trans i4, (hv.block _ (lt_of_block p7)).trans p7, i5.trans (hBv.mono i5.size)⟩
      have g7 := (H7.out x7 (Below.refl _ _)).2.2.2.2.1
      rw [hx7] at g7
      have s0 : (w7.alloc (.cells #[.slice a1q R1.length c1q, .slice a2q R2.length c2q] 29)).cell? ⟨w3.heap.size, 0, none⟩ = some (.slice a1 R1.length c1) := cellN g7
      have HX7 := (show Hid _ from hx7)
      clear hx7 hb7 p7 hB o1 o2 hy hB7 i2 i3 i4 i5 g7 H4r HTQ
      go_wp2_with fail
      rw [← HX7.out]
      clear HX7 s0
      refine (sameI_same _ _ R1 x7 (H7.out x7 (Below.refl _ _)).1 (H7.out x7 (Below.refl _ _)).2.1).mono ?_
      rintro r w8 ⟨rfl, hB8⟩
      have h8 := H7.out w8 hB8
      have H8 := (show Hid _ from h8)
      have u1 : w8.cell? ⟨w3.heap.size, 1, none⟩ = some (.slice a2 R2.length c2) := cellN h8.2.2.2.2.1
      have v1 : w8.cell? ⟨w7.heap.size, 1, none⟩ = some (.slice a2q R2.length c2q) := cellN h8.2.2.2.2.2.1
      clear h8 hB8 H7
      go_wp2_with fail
      refine (sameI_same _ _ R2 w8 H8.out.2.2.1 H8.out.2.2.2.1).mono ?_
      rintro r w9 ⟨rfl, hB9⟩
      have HF : Hid (Below w.heap.size w w9) := H8.out.2.2.2.2.2.2.trans (hB9.mono H8.out.2.2.2.2.2.2.size)
      clear hB9 u1 v1 H8
      go_wp2
      go_ret
      exact ⟨rfl, HF.out⟩

set_option maxRecDepth 100000 in
theorem alone_lifted (os : Os) (started : os.Started) (H : Type) (enc : TypeId × Value → H) :
    ReturnsInHanded {} Try.checked os 5 .any (Rows.fnAdminsAloneSpec.pre6 enc Try.prog Try.f5 Rows.fnAdminsAloneRow.domain false) (Rows.fnAdminsAloneSpec.post enc Try.prog Try.f5 false true false false) := by
  refine returnsInHanded_of_change (C := Try.checked) own started (by kernel_rfl) Try.func5
    (ChangeSpec.witness6 (enc := enc) (C := Try.checked) false ⟨#[], #[.slice none 0 0], []⟩ 8 (by kernel_rfl) (by kernel_rfl) (by kernel_rfl) (by kernel_rfl)) ?_
  intro W base args ds gs before hval0 hW hcnd _
  have hval : ∀ (j : Nat) t v, Try.f5.params[j]? = some t → args[j]? = some v → Value.okWide Try.prog W .any base t v := hval0
  have hW' := hW
  obtain ⟨p, q, hA0, hV, rfl, hfz, hnd⟩ := hW
  have hA : DataW.TrodAll enc Try.prog W 0 (fun _ => true) true Try.f5.params.toList args.toList ds p := hA0
  rw [Try.params5] at hA hval
  obtain ⟨v0, vs0, d0, ds0, p0, q0, hargs, rfl, rfl, h0, r0⟩ := trodAll_cons hA
  obtain ⟨rfl, rfl, rfl⟩ := trodAll_nil r0
  obtain rfl : args = #[v0] := by cases args; simp_all
  obtain ⟨rfl, rfl⟩ := trodVars_none hV
  obtain ⟨a0, len0, cap0, rfl⟩ := okWide_slice Try.underlying22 (hval 0 22 v0 rfl rfl)
  have k0 := h0
  have lt0 : ∀ x ∈ p0, x.block < W.heap.size := by obtain ⟨m, hm⟩ := k0; exact DataW.trod_lt m _ _ _ hm
  obtain ⟨Z, w0⟩ : ∃ Z, IsU8 W a0 len0 cap0 Z := by
    obtain ⟨fuel, hf⟩ := h0
    obtain ⟨a, len, cap, Z, e, hI⟩ := open_u8 (by simpa [Value.cells] using hf)
    simp at e
    obtain ⟨rfl, rfl, rfl⟩ := e
    exact ⟨Z, hI⟩
  clear hA0 hval0
  refine (alone_walk W w0).mono fun e W' ⟨he, bel⟩ => ?_
  subst he
  exact ⟨_, rfl, _, _, _, [], _, [], hW', trodAll_mk1 (shut_bool Try.underlying4 _), (trodAll_cons_mk (Below.trod laidOut (by kernel_rfl) (of_decide_eq_true (by kernel_rfl)) k0 bel lt0) trodAll_mk0), rfl, bel.frame _, fun h => by cases h⟩

theorem alone_proved : Rows.FnAdminsAloneSaid :=
  OpenClaim.holds_of_wide 5 Try.f5 rfl rfl rfl rfl rfl rfl rfl ⟨rfl, rfl, rfl, rfl, rfl⟩ rfl rfl rfl rfl rfl (by kernel_rfl) Try.func5 (by kernel_rfl)
    (of_decide_eq_true (by kernel_rfl)) (by unfold Func.isWrapper; first | (rw [if_pos (by decide +kernel)]; kernel_rfl) | (rw [if_neg (by decide +kernel)]; exact ⟨rfl, rfl⟩))
    (fun os started H enc _ => alone_lifted os started H enc)
#print axioms alone_proved
end Go.Proofs.Ythdlgnbdppijkaa
