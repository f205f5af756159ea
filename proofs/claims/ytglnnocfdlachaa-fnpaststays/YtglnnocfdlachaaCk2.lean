/-
  Both tests of a chain of events. No condition but that the slices read.
-/
import Derived.Test.YtglnnocfdlachaaCk
namespace Go.Proofs.Ytglnnocfdlachaa
open Go.RowKit
set_option linter.unusedVariables false

/-- the event at place i is right by itself and stands behind the one ahead of it -/
def okAt (D : Nat → Ev) (i : Nat) : Bool := (D i).fine && (i == 0 || ahead (D (i - 1)) (D i))
/-- a chain is right -/
def chainB (D : Nat → Ev) (len : Nat) : Bool := decide (len ≤ 30) && allB (okAt D) len
theorem chainB_false {D : Nat → Ev} {len k : Nat} (hk : k < len) (h : okAt D k = false) : chainB D len = false := by
  unfold chainB
  rw [allB_false (p := okAt D) hk h]; simp
theorem okAt_fine {D : Nat → Ev} {k : Nat} (h : (D k).fine = false) : okAt D k = false := by unfold okAt; rw [h]; rfl
theorem okAt_zero {D : Nat → Ev} {k : Nat} (hk : k = 0) (h : (D k).fine = true) : okAt D k = true := by subst hk; unfold okAt; rw [h]; rfl
theorem okAt_succ {D : Nat → Ev} {j : Nat} (h : (D (j + 1)).fine = true) : okAt D (j + 1) = ahead (D j) (D (j + 1)) := by unfold okAt; rw [h]; simp
theorem in_later {n lo hi : Int} {b : Bool} (hb : inB lo hi n = b) {w : World} (t : Later w) : Calls Try.prog 38 #[.int .i64 n, .int .i64 lo, .int .i64 hi] t.val fun e w'' => e = .returned (.bool b) ∧ ∃ s' : Later w, w'' = s'.val :=
  (in_any n lo hi b hb t.val).mono fun e w' ⟨h1, h2⟩ => ⟨h1, t, h2⟩
theorem ahead_later {x y : Ev} {b : Bool} (hb : ahead x y = b) {w : World} (t : Later w) : Calls Try.prog 39 #[.agg #[.int .i64 (x).a, .int .i64 (x).b, .int .i64 (x).c, .int .i64 (x).d], .agg #[.int .i64 (y).a, .int .i64 (y).b, .int .i64 (y).c, .int .i64 (y).d]] t.val fun e w'' => e = .returned (.bool b) ∧ ∃ s' : Later w, w'' = s'.val :=
  Calls.later (ahead_any x y b hb t.val)
theorem eventOk_later {x : Ev} {b : Bool} (hb : x.fine = b) {w : World} (t : Later w) : Calls Try.prog 24 #[.agg #[.int .i64 (x).a, .int .i64 (x).b, .int .i64 (x).c, .int .i64 (x).d]] t.val fun e w'' => e = .returned (.bool b) ∧ ∃ s' : Later w, w'' = s'.val :=
  Calls.later (eventOk_any x b hb t.val)
theorem cmp_later (x y : Ev) {w : World} (t : Later w) : Calls Try.prog 37 #[.agg #[.int .i64 (x).a, .int .i64 (x).b, .int .i64 (x).c, .int .i64 (x).d], .agg #[.int .i64 (y).a, .int .i64 (y).b, .int .i64 (y).c, .int .i64 (y).d]] t.val fun e w'' => e = .returned (.int .i64 (cmpE x y)) ∧ ∃ s' : Later w, w'' = s'.val :=
  Calls.later (cmpEv_any x y t.val)

set_option maxHeartbeats 4000000 in
theorem specChain_any (a : Option Addr) (len cap : Nat) (D : Nat → Ev) (w : World) (h : IsEvs w a len cap D) :
    Calls Try.prog 20 #[.slice a len cap] w fun e w' => e = .returned (.bool (chainB D len)) ∧ Below w.heap.size w w' := by
  obtain ⟨hlc, hcm, hc⟩ := h
  go_enter Try.func20, Try.ntmps20
  go_wp2
  go_loopw [3] (fun i wr => ∃ (k : Nat), k ≤ len ∧ i = .int .i64 k ∧ Hid (allB (okAt D) k = true) ∧ Below w.heap.size w wr) (fun i _ => len - (intOf i).toNat)
  case atStart => exact ⟨0, Nat.zero_le _, rfl, rfl, Below.refl _ _⟩
  case round =>
    obtain ⟨k, hk, rfl, HR, hB⟩ := hrel
    by_cases hlt : k < len
    · obtain ⟨b, off, rfl, hbs, hcell⟩ := hc (by omega)
      have hltI : (k : Int) < (len : Int) := by omega
      have m1 : EvAt wr b (off + k * 4) (D k) := (hcell k hlt).grow hbs hB
      obtain ⟨c0, c1, c2, c3⟩ := m1
      by_cases hk0 : k = 0
      · have HB : Hid (Below w.heap.size w (wr.alloc (.cells #[.int .i64 (D k).a, .int .i64 (D k).b, .int .i64 (D k).c, .int .i64 (D k).d] 30))) := hB.alloc hB.size _
        have HK0 : Hid (k = 0) := hk0
        have hk0n : ¬ (0 < k) := by omega
        have hk0i : (k : Int) ≤ 0 := by omega
        have hk0d : decide ((0 : Int) < (k : Int)) = false := by simp; omega
        have hne := Later.any (wr.alloc (.cells #[.int .i64 (D (k)).a, .int .i64 (D (k)).b, .int .i64 (D (k)).c, .int .i64 (D (k)).d] 30))
        have p0 : ∀ s : Later (wr.alloc (.cells #[.int .i64 (D (k)).a, .int .i64 (D (k)).b, .int .i64 (D (k)).c, .int .i64 (D (k)).d] 30)), s.val.cell? ⟨wr.heap.size, 0, none⟩ = some (.int .i64 (D (k)).a) := fun s => s.cell (cellN (heap_alloc_new _ _))
        have p1 : ∀ s : Later (wr.alloc (.cells #[.int .i64 (D (k)).a, .int .i64 (D (k)).b, .int .i64 (D (k)).c, .int .i64 (D (k)).d] 30)), s.val.cell? ⟨wr.heap.size, 1, none⟩ = some (.int .i64 (D (k)).b) := fun s => s.cell (cellN (heap_alloc_new _ _))
        have p2 : ∀ s : Later (wr.alloc (.cells #[.int .i64 (D (k)).a, .int .i64 (D (k)).b, .int .i64 (D (k)).c, .int .i64 (D (k)).d] 30)), s.val.cell? ⟨wr.heap.size, 2, none⟩ = some (.int .i64 (D (k)).c) := fun s => s.cell (cellN (heap_alloc_new _ _))
        have p3 : ∀ s : Later (wr.alloc (.cells #[.int .i64 (D (k)).a, .int .i64 (D (k)).b, .int .i64 (D (k)).c, .int .i64 (D (k)).d] 30)), s.val.cell? ⟨wr.heap.size, 3, none⟩ = some (.int .i64 (D (k)).d) := fun s => s.cell (cellN (heap_alloc_new _ _))
        clear hcell hc hB hk0
        cases ha : inB 1 20 (D (k)).a with
        | false =>
          have hf : (D (k)).fine = false := by unfold Ev.fine; rw [ha]; simp
          have hr : Hid (chainB D len = false) := chainB_false hlt (okAt_fine hf)
          clear HR hf
          go_wp2
          refine wp_region_later (by kernel_rfl) (by kernel_rfl) ?_
          repeat (go_big_quiet_step ((rename_i t; first | with_reducible exact in_later ha t)))
          refine wpQuiet_nil ?_
          rintro _ ⟨⟨w', hB2⟩, rfl⟩
          go_wp2
          go_ret
          exact ⟨ret_bool hr.out.symm, HB.out.trans (hB2.mono HB.out.size)⟩
        | true =>
          cases hb : inB 1 5 (D (k)).b with
          | false =>
            have hf : (D (k)).fine = false := by unfold Ev.fine; rw [hb]; simp
            have hr : Hid (chainB D len = false) := chainB_false hlt (okAt_fine hf)
            clear HR hf
            go_wp2
            refine wp_region_later (by kernel_rfl) (by kernel_rfl) ?_
            repeat (go_big_quiet_step ((rename_i t; first | with_reducible exact in_later ha t | with_reducible exact in_later hb t)))
            refine wpQuiet_nil ?_
            rintro _ ⟨⟨w', hB2⟩, rfl⟩
            go_wp2
            go_ret
            exact ⟨ret_bool hr.out.symm, HB.out.trans (hB2.mono HB.out.size)⟩
          | true =>
            cases hc : inB 1 3 (D (k)).c with
            | false =>
              have hf : (D (k)).fine = false := by unfold Ev.fine; rw [hc]; simp
              have hr : Hid (chainB D len = false) := chainB_false hlt (okAt_fine hf)
              clear HR hf
              go_wp2
              refine wp_region_later (by kernel_rfl) (by kernel_rfl) ?_
              repeat (go_big_quiet_step ((rename_i t; first | with_reducible exact in_later ha t | with_reducible exact in_later hb t | with_reducible exact in_later hc t)))
              refine wpQuiet_nil ?_
              rintro _ ⟨⟨w', hB2⟩, rfl⟩
              go_wp2
              go_ret
              exact ⟨ret_bool hr.out.symm, HB.out.trans (hB2.mono HB.out.size)⟩
            | true =>
              cases hd : inB 1 5 (D (k)).d with
              | false =>
                have hf : (D (k)).fine = false := by unfold Ev.fine; rw [hd]; simp
                have hr : Hid (chainB D len = false) := chainB_false hlt (okAt_fine hf)
                clear HR hf
                go_wp2
                refine wp_region_later (by kernel_rfl) (by kernel_rfl) ?_
                repeat (go_big_quiet_step ((rename_i t; first | with_reducible exact in_later ha t | with_reducible exact in_later hb t | with_reducible exact in_later hc t | with_reducible exact in_later hd t)))
                refine wpQuiet_nil ?_
                rintro _ ⟨⟨w', hB2⟩, rfl⟩
                go_wp2
                go_ret
                exact ⟨ret_bool hr.out.symm, HB.out.trans (hB2.mono HB.out.size)⟩
              | true =>
                have hf : (D (k)).fine = true := by unfold Ev.fine; rw [ha, hb, hc, hd]; rfl
                have HR' : Hid (allB (okAt D) (k + 1) = true) := by show _ = _; rw [allB_succ, HR.out, okAt_zero HK0.out hf]; rfl
                clear HR hf
                go_wp2
                refine wp_region_later (by kernel_rfl) (by kernel_rfl) ?_
                repeat (go_big_quiet_step ((rename_i t; first | with_reducible exact in_later ha t | with_reducible exact in_later hb t | with_reducible exact in_later hc t | with_reducible exact in_later hd t)))
                refine wpQuiet_nil ?_
                rintro _ ⟨⟨w', hB2⟩, rfl⟩
                go_wp2
                go_roundw
                case rel => exact ⟨k + 1, by omega, by go_num, HR', HB.out.trans (hB2.mono HB.out.size)⟩
                case measure => simp [intOf]; omega
      · obtain ⟨j, rfl⟩ : ∃ j, k = j + 1 := ⟨k - 1, by omega⟩
        clear hk0
        have m2 : EvAt wr b (off + j * 4) (D j) := (hcell j (by omega)).grow hbs hB
        have HB : Hid (Below w.heap.size w (wr.alloc (.cells #[.int .i64 (D (j + 1)).a, .int .i64 (D (j + 1)).b, .int .i64 (D (j + 1)).c, .int .i64 (D (j + 1)).d] 30))) := hB.alloc hB.size _
        have hne := Later.any (wr.alloc (.cells #[.int .i64 (D (j + 1)).a, .int .i64 (D (j + 1)).b, .int .i64 (D (j + 1)).c, .int .i64 (D (j + 1)).d] 30))
        have p0 : ∀ s : Later (wr.alloc (.cells #[.int .i64 (D (j + 1)).a, .int .i64 (D (j + 1)).b, .int .i64 (D (j + 1)).c, .int .i64 (D (j + 1)).d] 30)), s.val.cell? ⟨wr.heap.size, 0, none⟩ = some (.int .i64 (D (j + 1)).a) := fun s => s.cell (cellN (heap_alloc_new _ _))
        have p1 : ∀ s : Later (wr.alloc (.cells #[.int .i64 (D (j + 1)).a, .int .i64 (D (j + 1)).b, .int .i64 (D (j + 1)).c, .int .i64 (D (j + 1)).d] 30)), s.val.cell? ⟨wr.heap.size, 1, none⟩ = some (.int .i64 (D (j + 1)).b) := fun s => s.cell (cellN (heap_alloc_new _ _))
        have p2 : ∀ s : Later (wr.alloc (.cells #[.int .i64 (D (j + 1)).a, .int .i64 (D (j + 1)).b, .int .i64 (D (j + 1)).c, .int .i64 (D (j + 1)).d] 30)), s.val.cell? ⟨wr.heap.size, 2, none⟩ = some (.int .i64 (D (j + 1)).c) := fun s => s.cell (cellN (heap_alloc_new _ _))
        have p3 : ∀ s : Later (wr.alloc (.cells #[.int .i64 (D (j + 1)).a, .int .i64 (D (j + 1)).b, .int .i64 (D (j + 1)).c, .int .i64 (D (j + 1)).d] 30)), s.val.cell? ⟨wr.heap.size, 3, none⟩ = some (.int .i64 (D (j + 1)).d) := fun s => s.cell (cellN (heap_alloc_new _ _))
        have q0 : ∀ s : Later (wr.alloc (.cells #[.int .i64 (D (j + 1)).a, .int .i64 (D (j + 1)).b, .int .i64 (D (j + 1)).c, .int .i64 (D (j + 1)).d] 30)), s.val.cell? ⟨b, off + j * 4, none⟩ = some (.int .i64 (D j).a) := fun s => s.cell ((Below.cell ((Below.refl _ wr).alloc (Nat.le_refl _) _) (p := ⟨b, _, none⟩) (cell_lt m2.c0)).trans m2.c0)
        have q1 : ∀ s : Later (wr.alloc (.cells #[.int .i64 (D (j + 1)).a, .int .i64 (D (j + 1)).b, .int .i64 (D (j + 1)).c, .int .i64 (D (j + 1)).d] 30)), s.val.cell? ⟨b, off + j * 4 + 1, none⟩ = some (.int .i64 (D j).b) := fun s => s.cell ((Below.cell ((Below.refl _ wr).alloc (Nat.le_refl _) _) (p := ⟨b, _, none⟩) (cell_lt m2.c1)).trans m2.c1)
        have q2 : ∀ s : Later (wr.alloc (.cells #[.int .i64 (D (j + 1)).a, .int .i64 (D (j + 1)).b, .int .i64 (D (j + 1)).c, .int .i64 (D (j + 1)).d] 30)), s.val.cell? ⟨b, off + j * 4 + 2, none⟩ = some (.int .i64 (D j).c) := fun s => s.cell ((Below.cell ((Below.refl _ wr).alloc (Nat.le_refl _) _) (p := ⟨b, _, none⟩) (cell_lt m2.c2)).trans m2.c2)
        have q3 : ∀ s : Later (wr.alloc (.cells #[.int .i64 (D (j + 1)).a, .int .i64 (D (j + 1)).b, .int .i64 (D (j + 1)).c, .int .i64 (D (j + 1)).d] 30)), s.val.cell? ⟨b, off + j * 4 + 3, none⟩ = some (.int .i64 (D j).d) := fun s => s.cell ((Below.cell ((Below.refl _ wr).alloc (Nat.le_refl _) _) (p := ⟨b, _, none⟩) (cell_lt m2.c3)).trans m2.c3)
        clear hcell hc m2 hB
        cases ha : inB 1 20 (D (j + 1)).a with
        | false =>
          have hf : (D (j + 1)).fine = false := by unfold Ev.fine; rw [ha]; simp
          have hr : Hid (chainB D len = false) := chainB_false hlt (okAt_fine hf)
          clear HR hf
          go_wp2
          refine wp_region_later (by kernel_rfl) (by kernel_rfl) ?_
          repeat (go_big_quiet_step ((rename_i t; first | with_reducible exact in_later ha t)))
          refine wpQuiet_nil ?_
          rintro _ ⟨⟨w', hB2⟩, rfl⟩
          go_wp2
          go_ret
          exact ⟨ret_bool hr.out.symm, HB.out.trans (hB2.mono HB.out.size)⟩
        | true =>
          cases hb : inB 1 5 (D (j + 1)).b with
          | false =>
            have hf : (D (j + 1)).fine = false := by unfold Ev.fine; rw [hb]; simp
            have hr : Hid (chainB D len = false) := chainB_false hlt (okAt_fine hf)
            clear HR hf
            go_wp2
            refine wp_region_later (by kernel_rfl) (by kernel_rfl) ?_
            repeat (go_big_quiet_step ((rename_i t; first | with_reducible exact in_later ha t | with_reducible exact in_later hb t)))
            refine wpQuiet_nil ?_
            rintro _ ⟨⟨w', hB2⟩, rfl⟩
            go_wp2
            go_ret
            exact ⟨ret_bool hr.out.symm, HB.out.trans (hB2.mono HB.out.size)⟩
          | true =>
            cases hc : inB 1 3 (D (j + 1)).c with
            | false =>
              have hf : (D (j + 1)).fine = false := by unfold Ev.fine; rw [hc]; simp
              have hr : Hid (chainB D len = false) := chainB_false hlt (okAt_fine hf)
              clear HR hf
              go_wp2
              refine wp_region_later (by kernel_rfl) (by kernel_rfl) ?_
              repeat (go_big_quiet_step ((rename_i t; first | with_reducible exact in_later ha t | with_reducible exact in_later hb t | with_reducible exact in_later hc t)))
              refine wpQuiet_nil ?_
              rintro _ ⟨⟨w', hB2⟩, rfl⟩
              go_wp2
              go_ret
              exact ⟨ret_bool hr.out.symm, HB.out.trans (hB2.mono HB.out.size)⟩
            | true =>
              cases hd : inB 1 5 (D (j + 1)).d with
              | false =>
                have hf : (D (j + 1)).fine = false := by unfold Ev.fine; rw [hd]; simp
                have hr : Hid (chainB D len = false) := chainB_false hlt (okAt_fine hf)
                clear HR hf
                go_wp2
                refine wp_region_later (by kernel_rfl) (by kernel_rfl) ?_
                repeat (go_big_quiet_step ((rename_i t; first | with_reducible exact in_later ha t | with_reducible exact in_later hb t | with_reducible exact in_later hc t | with_reducible exact in_later hd t)))
                refine wpQuiet_nil ?_
                rintro _ ⟨⟨w', hB2⟩, rfl⟩
                go_wp2
                go_ret
                exact ⟨ret_bool hr.out.symm, HB.out.trans (hB2.mono HB.out.size)⟩
              | true =>
                have hf : (D (j + 1)).fine = true := by unfold Ev.fine; rw [ha, hb, hc, hd]; rfl
                cases he : ahead (D j) (D (j + 1)) with
                | true =>
                  have HR' : Hid (allB (okAt D) (j + 1 + 1) = true) := by show _ = _; rw [allB_succ, HR.out, okAt_succ hf, he]; rfl
                  clear HR hf
                  go_wp2
                  refine wp_region_later (by kernel_rfl) (by kernel_rfl) ?_
                  repeat (go_big_quiet_step ((rename_i t; first | with_reducible exact in_later ha t | with_reducible exact in_later hb t | with_reducible exact in_later hc t | with_reducible exact in_later hd t | with_reducible exact ahead_later he t)))
                  refine wpQuiet_nil ?_
                  rintro _ ⟨⟨w', hB2⟩, rfl⟩
                  go_wp2
                  go_roundw
                  case rel => exact ⟨j + 1 + 1, by omega, by go_num, HR', HB.out.trans (hB2.mono HB.out.size)⟩
                  case measure => simp [intOf]; omega
                | false =>
                  have hr : Hid (chainB D len = false) := chainB_false hlt ((okAt_succ hf).trans he)
                  clear HR hf
                  go_wp2
                  refine wp_region_later (by kernel_rfl) (by kernel_rfl) ?_
                  repeat (go_big_quiet_step ((rename_i t; first | with_reducible exact in_later ha t | with_reducible exact in_later hb t | with_reducible exact in_later hc t | with_reducible exact in_later hd t | with_reducible exact ahead_later he t)))
                  refine wpQuiet_nil ?_
                  rintro _ ⟨⟨w', hB2⟩, rfl⟩
                  go_wp2
                  go_ret
                  exact ⟨ret_bool hr.out.symm, HB.out.trans (hB2.mono HB.out.size)⟩
    · have hke : k = len := by omega
      subst hke
      have hr : Hid (chainB D k = decide ((k : Int) ≤ 30)) := by
        show _ = _
        unfold chainB
        rw [HR.out, Bool.and_true]
        by_cases h : k ≤ 30
        · simp [h]
          omega
        · simp [h]
          omega
      clear HR
      go_wp2
      go_ret
      exact ⟨ret_bool hr.out.symm, hB⟩

set_option maxHeartbeats 4000000 in
theorem implChain_any (a : Option Addr) (len cap : Nat) (D : Nat → Ev) (w : World) (h : IsEvs w a len cap D) :
    Calls Try.prog 18 #[.slice a len cap] w fun e w' => e = .returned (.bool (chainB D len)) ∧ Below w.heap.size w w' := by
  obtain ⟨hlc, hcm, hc⟩ := h
  by_cases h30 : 30 < len
  · have hr : Hid (chainB D len = false) := by
      show _ = _
      unfold chainB
      rw [decide_eq_false (by omega)]; rfl
    have h30' : (30 : Int) < (len : Int) := by omega
    clear hc
    go_enter Try.func18, Try.ntmps18
    go_wp2
    go_ret
    exact ⟨ret_bool hr.out.symm, Below.refl _ _⟩
  have hle : len ≤ 30 := by omega
  have hleI : decide ((30 : Int) < (len : Int)) = false := by simp; omega
  clear h30
  go_enter Try.func18, Try.ntmps18
  go_wp2
  go_loopw [10] (fun i wr => ∃ (k : Nat), k ≤ len ∧ i = .int .i64 k ∧ Hid (allB (okAt D) k = true) ∧ Below w.heap.size w wr) (fun i _ => len - (intOf i).toNat)
  case atStart => exact ⟨0, Nat.zero_le _, rfl, rfl, Below.refl _ _⟩
  case round =>
    obtain ⟨k, hk, rfl, HR, hB⟩ := hrel
    by_cases hlt : k < len
    · obtain ⟨b, off, rfl, hbs, hcell⟩ := hc (by omega)
      have hltI : (k : Int) < (len : Int) := by omega
      have m1 : EvAt wr b (off + k * 4) (D k) := (hcell k hlt).grow hbs hB
      obtain ⟨c0, c1, c2, c3⟩ := m1
      by_cases hk0 : k = 0
      · have HB : Hid (Below w.heap.size w (wr.alloc (.cells #[.int .i64 (D k).a, .int .i64 (D k).b, .int .i64 (D k).c, .int .i64 (D k).d] 30))) := hB.alloc hB.size _
        have HK0 : Hid (k = 0) := hk0
        have hk0n : ¬ (0 < k) := by omega
        have hk0i : (k : Int) ≤ 0 := by omega
        have hk0d : decide ((0 : Int) < (k : Int)) = false := by simp; omega
        have hne := Later.any (wr.alloc (.cells #[.int .i64 (D (k)).a, .int .i64 (D (k)).b, .int .i64 (D (k)).c, .int .i64 (D (k)).d] 30))
        have p0 : ∀ s : Later (wr.alloc (.cells #[.int .i64 (D (k)).a, .int .i64 (D (k)).b, .int .i64 (D (k)).c, .int .i64 (D (k)).d] 30)), s.val.cell? ⟨wr.heap.size, 0, none⟩ = some (.int .i64 (D (k)).a) := fun s => s.cell (cellN (heap_alloc_new _ _))
        have p1 : ∀ s : Later (wr.alloc (.cells #[.int .i64 (D (k)).a, .int .i64 (D (k)).b, .int .i64 (D (k)).c, .int .i64 (D (k)).d] 30)), s.val.cell? ⟨wr.heap.size, 1, none⟩ = some (.int .i64 (D (k)).b) := fun s => s.cell (cellN (heap_alloc_new _ _))
        have p2 : ∀ s : Later (wr.alloc (.cells #[.int .i64 (D (k)).a, .int .i64 (D (k)).b, .int .i64 (D (k)).c, .int .i64 (D (k)).d] 30)), s.val.cell? ⟨wr.heap.size, 2, none⟩ = some (.int .i64 (D (k)).c) := fun s => s.cell (cellN (heap_alloc_new _ _))
        have p3 : ∀ s : Later (wr.alloc (.cells #[.int .i64 (D (k)).a, .int .i64 (D (k)).b, .int .i64 (D (k)).c, .int .i64 (D (k)).d] 30)), s.val.cell? ⟨wr.heap.size, 3, none⟩ = some (.int .i64 (D (k)).d) := fun s => s.cell (cellN (heap_alloc_new _ _))
        clear hcell hc hB hk0
        cases hf : (D (k)).fine with
        | false =>
          have hr : Hid (chainB D len = false) := chainB_false hlt (okAt_fine hf)
          clear HR
          go_wp2
          refine wp_region_later (by kernel_rfl) (by kernel_rfl) ?_
          repeat (go_big_quiet_step ((rename_i t; first | with_reducible exact eventOk_later hf t)))
          refine wpQuiet_nil ?_
          rintro _ ⟨⟨w', hB2⟩, rfl⟩
          go_wp2
          go_ret
          exact ⟨ret_bool hr.out.symm, HB.out.trans (hB2.mono HB.out.size)⟩
        | true =>
          have HR' : Hid (allB (okAt D) (k + 1) = true) := by show _ = _; rw [allB_succ, HR.out, okAt_zero HK0.out hf]; rfl
          clear HR
          go_wp2
          refine wp_region_later (by kernel_rfl) (by kernel_rfl) ?_
          repeat (go_big_quiet_step ((rename_i t; first | with_reducible exact eventOk_later hf t)))
          refine wpQuiet_nil ?_
          rintro _ ⟨⟨w', hB2⟩, rfl⟩
          go_wp2
          go_roundw
          case rel => exact ⟨k + 1, by omega, by go_num, HR', HB.out.trans (hB2.mono HB.out.size)⟩
          case measure => simp [intOf]; omega
      · obtain ⟨j, rfl⟩ : ∃ j, k = j + 1 := ⟨k - 1, by omega⟩
        clear hk0
        have m2 : EvAt wr b (off + j * 4) (D j) := (hcell j (by omega)).grow hbs hB
        have HB : Hid (Below w.heap.size w (wr.alloc (.cells #[.int .i64 (D (j + 1)).a, .int .i64 (D (j + 1)).b, .int .i64 (D (j + 1)).c, .int .i64 (D (j + 1)).d] 30))) := hB.alloc hB.size _
        have hne := Later.any (wr.alloc (.cells #[.int .i64 (D (j + 1)).a, .int .i64 (D (j + 1)).b, .int .i64 (D (j + 1)).c, .int .i64 (D (j + 1)).d] 30))
        have p0 : ∀ s : Later (wr.alloc (.cells #[.int .i64 (D (j + 1)).a, .int .i64 (D (j + 1)).b, .int .i64 (D (j + 1)).c, .int .i64 (D (j + 1)).d] 30)), s.val.cell? ⟨wr.heap.size, 0, none⟩ = some (.int .i64 (D (j + 1)).a) := fun s => s.cell (cellN (heap_alloc_new _ _))
        have p1 : ∀ s : Later (wr.alloc (.cells #[.int .i64 (D (j + 1)).a, .int .i64 (D (j + 1)).b, .int .i64 (D (j + 1)).c, .int .i64 (D (j + 1)).d] 30)), s.val.cell? ⟨wr.heap.size, 1, none⟩ = some (.int .i64 (D (j + 1)).b) := fun s => s.cell (cellN (heap_alloc_new _ _))
        have p2 : ∀ s : Later (wr.alloc (.cells #[.int .i64 (D (j + 1)).a, .int .i64 (D (j + 1)).b, .int .i64 (D (j + 1)).c, .int .i64 (D (j + 1)).d] 30)), s.val.cell? ⟨wr.heap.size, 2, none⟩ = some (.int .i64 (D (j + 1)).c) := fun s => s.cell (cellN (heap_alloc_new _ _))
        have p3 : ∀ s : Later (wr.alloc (.cells #[.int .i64 (D (j + 1)).a, .int .i64 (D (j + 1)).b, .int .i64 (D (j + 1)).c, .int .i64 (D (j + 1)).d] 30)), s.val.cell? ⟨wr.heap.size, 3, none⟩ = some (.int .i64 (D (j + 1)).d) := fun s => s.cell (cellN (heap_alloc_new _ _))
        have q0 : ∀ s : Later (wr.alloc (.cells #[.int .i64 (D (j + 1)).a, .int .i64 (D (j + 1)).b, .int .i64 (D (j + 1)).c, .int .i64 (D (j + 1)).d] 30)), s.val.cell? ⟨b, off + j * 4, none⟩ = some (.int .i64 (D j).a) := fun s => s.cell ((Below.cell ((Below.refl _ wr).alloc (Nat.le_refl _) _) (p := ⟨b, _, none⟩) (cell_lt m2.c0)).trans m2.c0)
        have q1 : ∀ s : Later (wr.alloc (.cells #[.int .i64 (D (j + 1)).a, .int .i64 (D (j + 1)).b, .int .i64 (D (j + 1)).c, .int .i64 (D (j + 1)).d] 30)), s.val.cell? ⟨b, off + j * 4 + 1, none⟩ = some (.int .i64 (D j).b) := fun s => s.cell ((Below.cell ((Below.refl _ wr).alloc (Nat.le_refl _) _) (p := ⟨b, _, none⟩) (cell_lt m2.c1)).trans m2.c1)
        have q2 : ∀ s : Later (wr.alloc (.cells #[.int .i64 (D (j + 1)).a, .int .i64 (D (j + 1)).b, .int .i64 (D (j + 1)).c, .int .i64 (D (j + 1)).d] 30)), s.val.cell? ⟨b, off + j * 4 + 2, none⟩ = some (.int .i64 (D j).c) := fun s => s.cell ((Below.cell ((Below.refl _ wr).alloc (Nat.le_refl _) _) (p := ⟨b, _, none⟩) (cell_lt m2.c2)).trans m2.c2)
        have q3 : ∀ s : Later (wr.alloc (.cells #[.int .i64 (D (j + 1)).a, .int .i64 (D (j + 1)).b, .int .i64 (D (j + 1)).c, .int .i64 (D (j + 1)).d] 30)), s.val.cell? ⟨b, off + j * 4 + 3, none⟩ = some (.int .i64 (D j).d) := fun s => s.cell ((Below.cell ((Below.refl _ wr).alloc (Nat.le_refl _) _) (p := ⟨b, _, none⟩) (cell_lt m2.c3)).trans m2.c3)
        clear hcell hc m2 hB
        cases hf : (D (j + 1)).fine with
        | false =>
          have hr : Hid (chainB D len = false) := chainB_false hlt (okAt_fine hf)
          clear HR
          go_wp2
          refine wp_region_later (by kernel_rfl) (by kernel_rfl) ?_
          repeat (go_big_quiet_step ((rename_i t; first | with_reducible exact eventOk_later hf t)))
          refine wpQuiet_nil ?_
          rintro _ ⟨⟨w', hB2⟩, rfl⟩
          go_wp2
          go_ret
          exact ⟨ret_bool hr.out.symm, HB.out.trans (hB2.mono HB.out.size)⟩
        | true =>
          have hlt0 := cmpE_lt (D j) (D (j + 1))
          cases he : ahead (D j) (D (j + 1)) with
          | true =>
            have HR' : Hid (allB (okAt D) (j + 1 + 1) = true) := by show _ = _; rw [allB_succ, HR.out, okAt_succ hf, he]; rfl
            have hcd : decide ((0 : Int) ≤ cmpE (D j) (D (j + 1))) = false := by rw [he] at hlt0; simp at hlt0 ⊢; omega
            clear HR hlt0
            go_wp2
            refine wp_region_later (by kernel_rfl) (by kernel_rfl) ?_
            repeat (go_big_quiet_step ((rename_i t; first | with_reducible exact eventOk_later hf t | with_reducible exact cmp_later (D j) (D (j + 1)) t)))
            refine wpQuiet_nil ?_
            rintro _ ⟨⟨w', hB2⟩, rfl⟩
            go_wp2
            go_roundw
            case rel => exact ⟨j + 1 + 1, by omega, by go_num, HR', HB.out.trans (hB2.mono HB.out.size)⟩
            case measure => simp [intOf]; omega
          | false =>
            have hr : Hid (chainB D len = false) := chainB_false hlt ((okAt_succ hf).trans he)
            have hcd : (0 : Int) ≤ cmpE (D j) (D (j + 1)) := by rw [he] at hlt0; simp at hlt0 ⊢; omega
            clear HR hlt0
            go_wp2
            refine wp_region_later (by kernel_rfl) (by kernel_rfl) ?_
            repeat (go_big_quiet_step ((rename_i t; first | with_reducible exact eventOk_later hf t | with_reducible exact cmp_later (D j) (D (j + 1)) t)))
            refine wpQuiet_nil ?_
            rintro _ ⟨⟨w', hB2⟩, rfl⟩
            go_wp2
            go_ret
            exact ⟨ret_bool hr.out.symm, HB.out.trans (hB2.mono HB.out.size)⟩
    · have hke : k = len := by omega
      subst hke
      have hr : Hid (chainB D k = true) := by
        show _ = _
        unfold chainB
        rw [HR.out, decide_eq_true hle]; rfl
      clear HR
      go_wp2
      go_ret
      exact ⟨ret_bool hr.out.symm, hB⟩

end Go.Proofs.Ytglnnocfdlachaa
