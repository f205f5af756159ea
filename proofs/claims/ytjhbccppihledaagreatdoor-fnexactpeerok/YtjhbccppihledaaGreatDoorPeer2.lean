/-
  Both tests of a peer. No condition but that its slices read (and, for the program, that the tables lie).
-/
import Derived.Test.YtjhbccppihledaaGreatDoorPeer
import Derived.Test.YtjhbccppihledaaGreatDoorDag7
import Derived.Test.YtjhbccppihledaaGreatDoorSList
namespace Go.Proofs.YtjhbccppihledaaGreatDoor
open Go.RowKit Go.Maps
set_option linter.unusedVariables false

/-- a node that waits is not there, and one of its ups is not -/
def waitsB (D : Nat → Nd) (n : Nat) (e : Nd) : Bool := outB (ids D) n e.id && !hasB (ids D) n e.S e.n
/-- a peer is right -/
def peerB (D : Nat → Nd) (n : Nat) (E : Nat → Nd) (m : Nat) : Bool := dagB D n && (byB E m && allB (fun i => waitsB D n (E i)) m)

theorem byB_ok {E : Nat → Nd} {m k : Nat} (hk : k < m) (h : (E k).ok = false) : byB E m = false := by
  unfold byB
  rw [allB_false (p := fun i => (E i).ok) hk h]; simp
theorem byB_up {E : Nat → Nd} {m k : Nat} (hk : k < m) (h0 : 0 < k) (h : upB (ids E) k = false) : byB E m = false := by
  unfold byB
  rw [riseB_false hk h0 h]; simp

set_option maxHeartbeats 4000000 in
theorem specPeerOk_any (a : Option Addr) (n cap : Nat) (D : Nat → Nd) (b : Option Addr) (m mcap : Nat) (E : Nat → Nd) (w : World) (h : IsNds w a n cap D) (hf : Fine D n) (h' : IsNds w b m mcap E) (hf' : Fine E m) :
    Calls Tryz.prog 30 #[.agg #[.slice a n cap, .slice b m mcap]] w fun e w' => e = .returned (.bool (peerB D n E m)) ∧ Below w.heap.size w w' := by
  obtain ⟨W0, hW0⟩ : ∃ W0, W0 = w.alloc (.cells #[.slice a n cap, .slice b m mcap] 42) := ⟨_, rfl⟩
  have hB0 : Below w.heap.size w W0 := by rw [hW0]; exact (Below.refl _ _).alloc (Nat.le_refl _) _
  have hg0 : W0.heap[w.heap.size]? = some (.cells #[.slice a n cap, .slice b m mcap] 42) := by rw [hW0]; exact heap_alloc_new w _
  have HW : Hid (W0 = w.alloc (.cells #[.slice a n cap, .slice b m mcap] 42)) := hW0
  have HC : Hid (Calls Tryz.prog 11 #[.slice a n cap] W0 fun e w' => e = .returned (.bool (dagB D n)) ∧ Below W0.heap.size W0 w') := specDagOk_any a n cap D W0 (h.below hB0) hf
  have HN : Hid (IsNds w a n cap D) := h
  have HN' : Hid (IsNds w b m mcap E) := h'
  have HF : Hid (Fine D n) := hf
  have HF' : Hid (Fine E m) := hf'
  have HB0 : Hid (Below w.heap.size w W0) := hB0
  have HG0 : Hid (W0.heap[w.heap.size]? = some (.cells #[.slice a n cap, .slice b m mcap] 42)) := hg0
  clear hW0 h hf h' hf' hB0 hg0
  cases hd : dagB D n with
  | false =>
    have hr : Hid (peerB D n E m = false) := by
      show _ = _
      unfold peerB
      rw [hd]; rfl
    rw [hd] at HC
    clear hd
    go_enter Tryz.func30, Tryz.ntmps30
    go_wp2_with (go_at_call 11; rw [← HW.out]; refine HC.out.mono ?_; rintro e w1 ⟨rfl, hB1⟩)
    go_ret
    exact ⟨ret_bool hr.out.symm, HB0.out.trans (hB1.mono HB0.out.size)⟩
  | true =>
  rw [hd] at HC
  have HD : Hid (dagB D n = true) := hd
  have hn30 : n ≤ 30 := by
    unfold dagB at hd
    simp only [Bool.and_eq_true, decide_eq_true_eq] at hd
    exact hd.1
  clear hd
  have HL : Hid (∀ w1, Below w.heap.size w w1 → Calls Tryz.prog 42 #[.slice a n cap] w1 fun e w' => ∃ g gc, e = .returned (.slice g n gc) ∧ IsStrs w' g n gc (ids D) ∧ Below w1.heap.size w1 w') := fun w1 hB => l6All_any a n cap D w1 (HN.out.below hB) HF.out hn30
  by_cases h30 : 30 < m
  · have hr : Hid (peerB D n E m = false) := by
      show _ = _
      unfold peerB byB
      rw [decide_eq_false (show ¬ m ≤ 30 by omega)]; simp
    have h30' : (30 : Int) < (m : Int) := by omega
    go_enter Tryz.func30, Tryz.ntmps30
    go_wp2_with (go_at_call 11; rw [← HW.out]; refine HC.out.mono ?_; rintro e w1 ⟨rfl, hB1⟩; have hx1 : w1.cell? ⟨w.heap.size, 1, none⟩ = some (.slice b m mcap) := cellN ((hB1.block _ (lt_of_block HG0.out)).trans HG0.out))
    go_ret
    exact ⟨ret_bool hr.out.symm, HB0.out.trans (hB1.mono HB0.out.size)⟩
  have hle : m ≤ 30 := by omega
  have hleI : decide ((30 : Int) < (m : Int)) = false := by simp; omega
  go_enter Tryz.func30, Tryz.ntmps30
  clear h30
  go_wp2_with (first
    | (go_at_call 11; rw [← HW.out]; refine HC.out.mono ?_; rintro e w1 ⟨rfl, hB1⟩; have hx0 : w1.cell? ⟨w.heap.size, 0, none⟩ = some (.slice a n cap) := cellN ((hB1.block _ (lt_of_block HG0.out)).trans HG0.out); have hx1 : w1.cell? ⟨w.heap.size, 1, none⟩ = some (.slice b m mcap) := cellN ((hB1.block _ (lt_of_block HG0.out)).trans HG0.out))
    | (go_at_call 42; refine (HL.out w1 (HB0.out.trans (hB1.mono HB0.out.size))).mono ?_; rintro e w2 ⟨g, gc, rfl, hI, hB2⟩))
  have HB1 : Hid (Below w.heap.size w w1) := HB0.out.trans (hB1.mono HB0.out.size)
  have HB2 : Hid (Below w.heap.size w w2) := HB1.out.trans (hB2.mono HB1.out.size)
  have HI2 : Hid (IsStrs w2 g n gc (ids D)) := hI
  have HE2 : Hid (IsNds w2 b m mcap E) := HN'.out.below HB2.out
  have HX2 : Hid (w2.cell? ⟨w.heap.size, 1, none⟩ = some (.slice b m mcap)) := (hB2.cell (p := ⟨w.heap.size, 1, none⟩) (cell_lt hx1)).trans hx1
  clear hx0 hx1 hI hB1 hB2 HL HC
  go_loopw [4] (fun i wr => ∃ (k : Nat), k ≤ m ∧ i = .int .i64 k ∧ Hid (allB (fun i => (E i).ok) k = true ∧ riseB (ids E) k = true ∧ allB (fun i => waitsB D n (E i)) k = true) ∧ Below w2.heap.size w2 wr) (fun i _ => m - (intOf i).toNat)
  case atStart => exact ⟨0, Nat.zero_le _, rfl, ⟨rfl, rfl, rfl⟩, Below.refl _ _⟩
  case round =>
    obtain ⟨k, hk, rfl, HR, hB⟩ := hrel
    have hx : wr.cell? ⟨w.heap.size, 1, none⟩ = some (.slice b m mcap) := (hB.cell (p := ⟨w.heap.size, 1, none⟩) (cell_lt HX2.out)).trans HX2.out
    by_cases hlt : k < m
    · obtain ⟨bb, off, hbe, hbs, hcell⟩ := HE2.out.2.2 (by omega)
      subst hbe
      have hltI : (k : Int) < (m : Int) := by omega
      have m1 : NdAt wr bb (off + k * 6) (E k) := (hcell k hlt).below hB
      have hfk := HF'.out k hlt
      obtain ⟨W1, hW1⟩ : ∃ W1, W1 = wr.alloc (.cells #[.int .i64 (E k).a, .int .i64 (E k).s, .int .i64 (E k).k, .string (E k).key, .string (E k).text, .slice (E k).u (E k).n (E k).cap] 58) := ⟨_, rfl⟩
      have hBw : Below wr.heap.size wr W1 := by rw [hW1]; exact (Below.refl _ _).alloc (Nat.le_refl _) _
      have hg : W1.heap[wr.heap.size]? = some (.cells #[.int .i64 (E k).a, .int .i64 (E k).s, .int .i64 (E k).k, .string (E k).key, .string (E k).text, .slice (E k).u (E k).n (E k).cap] 58) := by rw [hW1]; exact heap_alloc_new wr _
      have hB2W : Below w2.heap.size w2 W1 := hB.trans (hBw.mono hB.size)
      have HBW : Hid (Below w2.heap.size w2 W1) := hB2W
      have hne := Later.any W1
      have q0 : ∀ s : Later W1, s.val.cell? ⟨wr.heap.size, 0, none⟩ = some (.int .i64 (E k).a) := fun s => s.cell (cellN hg)
      have q1 : ∀ s : Later W1, s.val.cell? ⟨wr.heap.size, 1, none⟩ = some (.int .i64 (E k).s) := fun s => s.cell (cellN hg)
      have q2 : ∀ s : Later W1, s.val.cell? ⟨wr.heap.size, 2, none⟩ = some (.int .i64 (E k).k) := fun s => s.cell (cellN hg)
      have q3 : ∀ s : Later W1, s.val.cell? ⟨wr.heap.size, 3, none⟩ = some (.string (E k).key) := fun s => s.cell (cellN hg)
      have q4 : ∀ s : Later W1, s.val.cell? ⟨wr.heap.size, 4, none⟩ = some (.string (E k).text) := fun s => s.cell (cellN hg)
      have q5 : ∀ s : Later W1, s.val.cell? ⟨wr.heap.size, 5, none⟩ = some (.slice (E k).u (E k).n (E k).cap) := fun s => s.cell (cellN hg)
      have hpx : ∀ s : Later W1, s.val.cell? ⟨w.heap.size, 1, none⟩ = some (.slice (some ⟨bb, off, none⟩) m mcap) := fun s => s.cell ((hBw.cell (p := ⟨w.heap.size, 1, none⟩) (cell_lt hx)).trans hx)
      have HK : Hid (∀ s : Later W1, Calls Tryz.prog 41 #[.agg #[.int .i64 (E k).a, .int .i64 (E k).s, .int .i64 (E k).k, .string (E k).key, .string (E k).text, .slice (E k).u (E k).n (E k).cap]] s.val fun e w' => e = .returned (.bool (E k).ok) ∧ Below s.val.heap.size s.val w') := fun s => specNodeOk_any _ _ _ _ _ _ _ _ (E k).S s.val ((m1.i.below hBw).below s.ok) hfk.2.2 hfk.1 hfk.2.1
      have HD1 : Hid (∀ s : Later W1, Calls Tryz.prog 61 #[.agg #[.int .i64 (E k).a, .int .i64 (E k).s, .int .i64 (E k).k, .string (E k).key, .string (E k).text, .slice (E k).u (E k).n (E k).cap]] s.val fun e w' => e = .returned (.string (ids E k)) ∧ Below s.val.heap.size s.val w') := fun s => specIdOf_any _ _ _ _ _ _ _ _ (E k).S s.val ((m1.i.below hBw).below s.ok) hfk.2.2 hfk.1 hfk.2.1
      have HH : Hid (∀ s : Later W1, ∀ x, (!(outB (ids D) n (ids E k))) = x → Calls Tryz.prog 62 #[.slice g n gc, .string (ids E k)] s.val fun e w' => e = .returned (.bool x) ∧ Below s.val.heap.size s.val w') := fun s x hx => l1Has_below g n gc (ids D) (ids E k) s.val ((HI2.out.below hB2W).below s.ok) x hx
      have HX : Hid (∀ s : Later W1, Calls Tryz.prog 43 #[.slice g n gc, .agg #[.int .i64 (E k).a, .int .i64 (E k).s, .int .i64 (E k).k, .string (E k).key, .string (E k).text, .slice (E k).u (E k).n (E k).cap]] s.val fun e w' => e = .returned (.bool (hasB (ids D) n (E k).S (E k).n)) ∧ Below s.val.heap.size s.val w') := fun s => l6Has_any _ _ _ (ids D) _ _ _ _ _ _ _ _ (E k).S s.val ((HI2.out.below hB2W).below s.ok) ((m1.i.below hBw).below s.ok)
      have HM : Hid (∀ j, j < m → ∀ s : Later W1, NdAt s.val bb (off + j * 6) (E j)) := fun j hj s => ((hcell j hj).below hB2W).below s.ok
      have HW1 : Hid (W1 = _) := hW1
      have hBad : ∀ x, byB E m = false ∨ waitsB D n (E k) = x ∧ x = false → Hid (peerB D n E m = false) := fun x hx => by
        show _ = _
        unfold peerB
        rcases hx with hx | ⟨hx, hxf⟩
        · rw [hx]; simp
        · rw [allB_false (p := fun i => waitsB D n (E i)) hlt (hx.trans hxf)]; simp
      have HBad : Hid (∀ x, byB E m = false ∨ waitsB D n (E k) = x ∧ x = false → Hid (peerB D n E m = false)) := hBad
      obtain ⟨c0, c1, c2, c3, c4, c5, ci⟩ := m1
      clear hcell hB hBw hB2W hg hW1 hfk hBad ci
      cases hok : (E k).ok with
      | false =>
        have hr := HBad.out true (.inl (byB_ok hlt hok))
        rw [hok] at HK
        clear HBad HR hok
        go_wp2
        rw [← HW1.out]
        refine wp_region_later (by kernel_rfl) (by kernel_rfl) ?_
        repeat (go_big_quiet_step ((rename_i t; exact Calls.later (HK.out t))))
        refine wpQuiet_nil ?_
        rintro _ ⟨⟨w', hB3⟩, rfl⟩
        go_wp2
        go_ret
        exact ⟨ret_bool hr.out.symm, HB2.out.trans ((HBW.out.trans (hB3.mono HBW.out.size)).mono HB2.out.size)⟩
      | true =>
        rw [hok] at HK
        rcases Nat.eq_zero_or_pos k with hk0 | hpos
        · have HR1 : Hid (riseB (ids E) (k + 1) = true) := by rw [hk0]; exact (rfl : riseB (ids E) 1 = true)
          have hkd : decide ((0 : Int) < (k : Int)) = false := by simp; omega
          have hkn : decide (0 < k) = false := by simp; omega
          clear hk0 HM
          cases ho : outB (ids D) n (ids E k) with
          | false =>
            have hr := HBad.out false (.inr ⟨by show waitsB D n (E k) = false; unfold waitsB; rw [show outB (ids D) n (E k).id = false from ho]; rfl, rfl⟩)
            have hho : (!(outB (ids D) n (ids E k))) = true := by rw [ho]; rfl
            clear HBad HR ho HX
            go_wp2
            rw [← HW1.out]
            refine wp_region_later (by kernel_rfl) (by kernel_rfl) ?_
            iterate 2 (go_big_quiet_step ((rename_i t; exact Calls.later (HK.out t))))
            iterate 21 (go_big_quiet_step ((rename_i t; exact Calls.later (HD1.out t))))
            repeat (go_big_quiet_step ((rename_i t; exact Calls.later (HH.out t _ hho))))
            refine wpQuiet_nil ?_
            rintro _ ⟨⟨w', hB3⟩, rfl⟩
            go_wp2
            go_ret
            exact ⟨ret_bool hr.out.symm, HB2.out.trans ((HBW.out.trans (hB3.mono HBW.out.size)).mono HB2.out.size)⟩
          | true =>
            have hho : (!(outB (ids D) n (ids E k))) = false := by rw [ho]; rfl
            cases hq : hasB (ids D) n (E k).S (E k).n with
            | true =>
              have hr := HBad.out false (.inr ⟨by show waitsB D n (E k) = false; unfold waitsB; rw [hq]; simp, rfl⟩)
              rw [hq] at HX
              clear HBad HR ho hq
              go_wp2
              rw [← HW1.out]
              refine wp_region_later (by kernel_rfl) (by kernel_rfl) ?_
              iterate 2 (go_big_quiet_step ((rename_i t; exact Calls.later (HK.out t))))
              iterate 21 (go_big_quiet_step ((rename_i t; exact Calls.later (HD1.out t))))
              iterate 1 (go_big_quiet_step ((rename_i t; exact Calls.later (HH.out t _ hho))))
              repeat (go_big_quiet_step ((rename_i t; exact Calls.later (HX.out t))))
              refine wpQuiet_nil ?_
              rintro _ ⟨⟨w', hB3⟩, rfl⟩
              go_wp2
              go_ret
              exact ⟨ret_bool hr.out.symm, HB2.out.trans ((HBW.out.trans (hB3.mono HBW.out.size)).mono HB2.out.size)⟩
            | false =>
              have HR' : Hid (allB (fun i => (E i).ok) (k + 1) = true ∧ riseB (ids E) (k + 1) = true ∧ allB (fun i => waitsB D n (E i)) (k + 1) = true) := ⟨by rw [allB_succ, HR.out.1, hok]; rfl, HR1.out, by rw [allB_succ, HR.out.2.2]; show waitsB D n (E k) = true; unfold waitsB; rw [show outB (ids D) n (E k).id = true from ho, hq]; rfl⟩
              rw [hq] at HX
              clear HBad HR HR1 ho hq hok
              go_wp2
              rw [← HW1.out]
              refine wp_region_later (by kernel_rfl) (by kernel_rfl) ?_
              iterate 2 (go_big_quiet_step ((rename_i t; exact Calls.later (HK.out t))))
              iterate 21 (go_big_quiet_step ((rename_i t; exact Calls.later (HD1.out t))))
              iterate 1 (go_big_quiet_step ((rename_i t; exact Calls.later (HH.out t _ hho))))
              repeat (go_big_quiet_step ((rename_i t; exact Calls.later (HX.out t))))
              refine wpQuiet_nil ?_
              rintro _ ⟨⟨w', hB3⟩, rfl⟩
              go_wp2
              go_roundw
              case rel => exact ⟨k + 1, by omega, by go_num, HR', HBW.out.trans (hB3.mono HBW.out.size)⟩
              case measure => simp [intOf]; omega
        · obtain ⟨p, rfl⟩ : ∃ p, k = p + 1 := ⟨k - 1, by omega⟩
          have g1 : (0 : Int) < ((p + 1 : Nat) : Int) := by omega
          have r0 : ∀ s : Later W1, s.val.cell? ⟨bb, off + p * 6, none⟩ = some (.int .i64 (E p).a) := fun s => (HM.out p (by omega) s).c0
          have r1 : ∀ s : Later W1, s.val.cell? ⟨bb, off + p * 6 + 1, none⟩ = some (.int .i64 (E p).s) := fun s => (HM.out p (by omega) s).c1
          have r2 : ∀ s : Later W1, s.val.cell? ⟨bb, off + p * 6 + 2, none⟩ = some (.int .i64 (E p).k) := fun s => (HM.out p (by omega) s).c2
          have r3 : ∀ s : Later W1, s.val.cell? ⟨bb, off + p * 6 + 3, none⟩ = some (.string (E p).key) := fun s => (HM.out p (by omega) s).c3
          have r4 : ∀ s : Later W1, s.val.cell? ⟨bb, off + p * 6 + 4, none⟩ = some (.string (E p).text) := fun s => (HM.out p (by omega) s).c4
          have r5 : ∀ s : Later W1, s.val.cell? ⟨bb, off + p * 6 + 5, none⟩ = some (.slice (E p).u (E p).n (E p).cap) := fun s => (HM.out p (by omega) s).c5
          have hfp := HF'.out p (by omega)
          have HD0 : Hid (∀ s : Later W1, Calls Tryz.prog 61 #[.agg #[.int .i64 (E p).a, .int .i64 (E p).s, .int .i64 (E p).k, .string (E p).key, .string (E p).text, .slice (E p).u (E p).n (E p).cap]] s.val fun e w' => e = .returned (.string (ids E p)) ∧ Below s.val.heap.size s.val w') := fun s => specIdOf_any _ _ _ _ _ _ _ _ (E p).S s.val (HM.out p (by omega) s).i hfp.2.2 hfp.1 hfp.2.1
          have hup : upB (ids E) (p + 1) = Op.bytesLess (ids E p).toList (ids E (p + 1)).toList := rfl
          clear HM hfp
          cases hu : upB (ids E) (p + 1) with
          | false =>
            rw [hu] at hup
            have hup' := hup.symm
            have hr := HBad.out true (.inl (byB_up hlt (by omega) hu))
            clear hup hu HBad HR HX HH hok
            go_wp2
            rw [← HW1.out]
            refine wp_region_later (by kernel_rfl) (by kernel_rfl) ?_
            iterate 2 (go_big_quiet_step ((rename_i t; exact Calls.later (HK.out t))))
            iterate 12 (go_big_quiet_step ((rename_i t; exact Calls.later (HD0.out t))))
            repeat (go_big_quiet_step ((rename_i t; exact Calls.later (HD1.out t))))
            refine wpQuiet_nil ?_
            rintro _ ⟨⟨w', hB3⟩, rfl⟩
            go_wp2
            go_ret
            exact ⟨ret_bool hr.out.symm, HB2.out.trans ((HBW.out.trans (hB3.mono HBW.out.size)).mono HB2.out.size)⟩
          | true =>
            rw [hu] at hup
            have hup' := hup.symm
            have HR1 : Hid (riseB (ids E) (p + 1 + 1) = true) := by show _ = _; rw [riseB_succ, HR.out.2.1, hu]; simp
            clear hup hu
            cases ho : outB (ids D) n (ids E (p + 1)) with
            | false =>
              have hr := HBad.out false (.inr ⟨by show waitsB D n (E (p + 1)) = false; unfold waitsB; rw [show outB (ids D) n (E (p + 1)).id = false from ho]; rfl, rfl⟩)
              have hho : (!(outB (ids D) n (ids E (p + 1)))) = true := by rw [ho]; rfl
              clear HBad HR ho HX
              go_wp2
              rw [← HW1.out]
              refine wp_region_later (by kernel_rfl) (by kernel_rfl) ?_
              iterate 2 (go_big_quiet_step ((rename_i t; exact Calls.later (HK.out t))))
              iterate 12 (go_big_quiet_step ((rename_i t; exact Calls.later (HD0.out t))))
              iterate 9 (go_big_quiet_step ((rename_i t; exact Calls.later (HD1.out t))))
              repeat (go_big_quiet_step ((rename_i t; exact Calls.later (HH.out t _ hho))))
              refine wpQuiet_nil ?_
              rintro _ ⟨⟨w', hB3⟩, rfl⟩
              go_wp2
              go_ret
              exact ⟨ret_bool hr.out.symm, HB2.out.trans ((HBW.out.trans (hB3.mono HBW.out.size)).mono HB2.out.size)⟩
            | true =>
              have hho : (!(outB (ids D) n (ids E (p + 1)))) = false := by rw [ho]; rfl
              cases hq : hasB (ids D) n (E (p + 1)).S (E (p + 1)).n with
              | true =>
                have hr := HBad.out false (.inr ⟨by show waitsB D n (E (p + 1)) = false; unfold waitsB; rw [hq]; simp, rfl⟩)
                rw [hq] at HX
                clear HBad HR ho hq
                go_wp2
                rw [← HW1.out]
                refine wp_region_later (by kernel_rfl) (by kernel_rfl) ?_
                iterate 2 (go_big_quiet_step ((rename_i t; exact Calls.later (HK.out t))))
                iterate 12 (go_big_quiet_step ((rename_i t; exact Calls.later (HD0.out t))))
                iterate 9 (go_big_quiet_step ((rename_i t; exact Calls.later (HD1.out t))))
                iterate 1 (go_big_quiet_step ((rename_i t; exact Calls.later (HH.out t _ hho))))
                repeat (go_big_quiet_step ((rename_i t; exact Calls.later (HX.out t))))
                refine wpQuiet_nil ?_
                rintro _ ⟨⟨w', hB3⟩, rfl⟩
                go_wp2
                go_ret
                exact ⟨ret_bool hr.out.symm, HB2.out.trans ((HBW.out.trans (hB3.mono HBW.out.size)).mono HB2.out.size)⟩
              | false =>
                have HR' : Hid (allB (fun i => (E i).ok) ((p + 1) + 1) = true ∧ riseB (ids E) ((p + 1) + 1) = true ∧ allB (fun i => waitsB D n (E i)) ((p + 1) + 1) = true) := ⟨by rw [allB_succ, HR.out.1, hok]; rfl, HR1.out, by rw [allB_succ, HR.out.2.2]; show waitsB D n (E (p + 1)) = true; unfold waitsB; rw [show outB (ids D) n (E (p + 1)).id = true from ho, hq]; rfl⟩
                rw [hq] at HX
                clear HBad HR HR1 ho hq hok
                go_wp2
                rw [← HW1.out]
                refine wp_region_later (by kernel_rfl) (by kernel_rfl) ?_
                iterate 2 (go_big_quiet_step ((rename_i t; exact Calls.later (HK.out t))))
                iterate 12 (go_big_quiet_step ((rename_i t; exact Calls.later (HD0.out t))))
                iterate 9 (go_big_quiet_step ((rename_i t; exact Calls.later (HD1.out t))))
                iterate 1 (go_big_quiet_step ((rename_i t; exact Calls.later (HH.out t _ hho))))
                repeat (go_big_quiet_step ((rename_i t; exact Calls.later (HX.out t))))
                refine wpQuiet_nil ?_
                rintro _ ⟨⟨w', hB3⟩, rfl⟩
                go_wp2
                go_roundw
                case rel => exact ⟨(p + 1) + 1, by omega, by go_num, HR', HBW.out.trans (hB3.mono HBW.out.size)⟩
                case measure => simp [intOf]; omega
    · have hke : k = m := by omega
      subst hke
      have hr : Hid (peerB D n E k = true) := by
        show _ = _
        unfold peerB byB
        rw [HD.out, HR.out.1, HR.out.2.1, HR.out.2.2, decide_eq_true hle]; rfl
      clear HR
      go_wp2
      go_ret
      exact ⟨ret_bool hr.out.symm, HB2.out.trans (hB.mono HB2.out.size)⟩
end Go.Proofs.YtjhbccppihledaaGreatDoor
