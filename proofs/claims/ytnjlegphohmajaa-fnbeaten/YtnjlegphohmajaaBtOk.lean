/-
  Both tests of beats. No condition but that the slices read.
-/
import Derived.Test.YtnjlegphohmajaaBtA
namespace Go.Proofs.Ytnjlegphohmajaa
open Go.RowKit
set_option linter.unusedVariables false

/-- the beat at place i is right by itself and stands behind the one ahead of it -/
def okAt (D : Nat → Ev) (i : Nat) : Bool := (D i).fine && (i == 0 || decide ((D (i - 1)).a < (D i).a))
/-- beats are right -/
def beatsB (D : Nat → Ev) (len : Nat) : Bool := decide (len ≤ 12) && allB (okAt D) len
theorem beatsB_false {D : Nat → Ev} {len k : Nat} (hk : k < len) (h : okAt D k = false) : beatsB D len = false := by
  unfold beatsB
  rw [allB_false (p := okAt D) hk h]; simp
theorem okAt_fine {D : Nat → Ev} {k : Nat} (h : (D k).fine = false) : okAt D k = false := by unfold okAt; rw [h]; rfl
theorem okAt_zero {D : Nat → Ev} {k : Nat} (hk : k = 0) (h : (D k).fine = true) : okAt D k = true := by subst hk; unfold okAt; rw [h]; rfl
theorem okAt_succ {D : Nat → Ev} {j : Nat} (h : (D (j + 1)).fine = true) : okAt D (j + 1) = decide ((D j).a < (D (j + 1)).a) := by unfold okAt; rw [h]; simp
theorem in_later {n lo hi : Int} {b : Bool} (hb : inB lo hi n = b) {w : World} (t : Later w) : Calls Try.prog 46 #[.int .i64 n, .int .i64 lo, .int .i64 hi] t.val fun e w'' => e = .returned (.bool b) ∧ ∃ s' : Later w, w'' = s'.val :=
  (in_any n lo hi b hb t.val).mono fun e w' ⟨h1, h2⟩ => ⟨h1, t, h2⟩
theorem beatOk_later {x : Ev} {b : Bool} (hx : x.d.size ≤ 9223372036854775807) (hb : x.fine = b) {w : World} (t : Later w) : Calls Try.prog 45 #[.agg #[.int .i64 (x).a, .int .i64 (x).b, .int .i64 (x).c, .string (x).d]] t.val fun e w'' => e = .returned (.bool b) ∧ ∃ s' : Later w, w'' = s'.val :=
  Calls.later (beatOk_any x hx b hb t.val)

set_option maxHeartbeats 4000000 in
theorem specBeats_any (a : Option Addr) (len cap : Nat) (D : Nat → Ev) (w : World) (h : IsEvs w a len cap D) (hF : ∀ i, i < len → (D i).in) :
    Calls Try.prog 14 #[.slice a len cap] w fun e w' => e = .returned (.bool (beatsB D len)) ∧ Below w.heap.size w w' := by
  obtain ⟨hlc, hcm, hc⟩ := h
  go_enter Try.func14, Try.ntmps14
  go_wp2
  go_loopw [3] (fun i wr => ∃ (k : Nat), k ≤ len ∧ i = .int .i64 k ∧ Hid (allB (okAt D) k = true) ∧ Below w.heap.size w wr) (fun i _ => len - (intOf i).toNat)
  case atStart => exact ⟨0, Nat.zero_le _, rfl, rfl, Below.refl _ _⟩
  case round =>
    obtain ⟨k, hk, rfl, HR, hB⟩ := hrel
    by_cases hlt : k < len
    · obtain ⟨b, off, rfl, hbs, hcell⟩ := hc (by omega)
      have hltI : (k : Int) < (len : Int) := by omega
      have hxk : (D k).d.size ≤ 9223372036854775807 := hF k hlt
      have m1 : EvAt wr b (off + k * 4) (D k) := (hcell k hlt).grow hbs hB
      obtain ⟨c0, c1, c2, c3⟩ := m1
      by_cases hk0 : k = 0
      · have HB : Hid (Below w.heap.size w (wr.alloc (.cells #[.int .i64 (D k).a, .int .i64 (D k).b, .int .i64 (D k).c, .string (D k).d] 32))) := hB.alloc hB.size _
        have HK0 : Hid (k = 0) := hk0
        have hk0n : ¬ (0 < k) := by omega
        have hk0i : (k : Int) ≤ 0 := by omega
        have hk0d : decide ((0 : Int) < (k : Int)) = false := by simp; omega
        have hne := Later.any (wr.alloc (.cells #[.int .i64 (D (k)).a, .int .i64 (D (k)).b, .int .i64 (D (k)).c, .string (D (k)).d] 32))
        have p0 : ∀ s : Later (wr.alloc (.cells #[.int .i64 (D (k)).a, .int .i64 (D (k)).b, .int .i64 (D (k)).c, .string (D (k)).d] 32)), s.val.cell? ⟨wr.heap.size, 0, none⟩ = some (.int .i64 (D (k)).a) := fun s => s.cell (cellN (heap_alloc_new _ _))
        have p1 : ∀ s : Later (wr.alloc (.cells #[.int .i64 (D (k)).a, .int .i64 (D (k)).b, .int .i64 (D (k)).c, .string (D (k)).d] 32)), s.val.cell? ⟨wr.heap.size, 1, none⟩ = some (.int .i64 (D (k)).b) := fun s => s.cell (cellN (heap_alloc_new _ _))
        have p2 : ∀ s : Later (wr.alloc (.cells #[.int .i64 (D (k)).a, .int .i64 (D (k)).b, .int .i64 (D (k)).c, .string (D (k)).d] 32)), s.val.cell? ⟨wr.heap.size, 2, none⟩ = some (.int .i64 (D (k)).c) := fun s => s.cell (cellN (heap_alloc_new _ _))
        have p3 : ∀ s : Later (wr.alloc (.cells #[.int .i64 (D (k)).a, .int .i64 (D (k)).b, .int .i64 (D (k)).c, .string (D (k)).d] 32)), s.val.cell? ⟨wr.heap.size, 3, none⟩ = some (.string (D (k)).d) := fun s => s.cell (cellN (heap_alloc_new _ _))
        clear hcell hc hB hk0 hF
        cases ha : inB 1 1000000 (D (k)).a with
        | false =>
          have hf : (D (k)).fine = false := by unfold Ev.fine; rw [ha]; simp
          have hr : Hid (beatsB D len = false) := beatsB_false hlt (okAt_fine hf)
          clear HR hf
          go_wp2
          refine wp_region_later (by kernel_rfl) (by kernel_rfl) ?_
          repeat (go_big_quiet_step ((rename_i t; first | with_reducible exact in_later ha t)))
          refine wpQuiet_nil ?_
          rintro _ ⟨⟨w', hB2⟩, rfl⟩
          go_wp2
          go_ret
          exact ⟨ret_bool hr.out.symm, HB.out.trans (hB2.mono HB.out.size)⟩
        | true =>
          cases hb : inB 1 1000000 (D (k)).b with
          | false =>
            have hf : (D (k)).fine = false := by unfold Ev.fine; rw [hb]; simp
            have hr : Hid (beatsB D len = false) := beatsB_false hlt (okAt_fine hf)
            clear HR hf
            go_wp2
            refine wp_region_later (by kernel_rfl) (by kernel_rfl) ?_
            repeat (go_big_quiet_step ((rename_i t; first | with_reducible exact in_later ha t | with_reducible exact in_later hb t)))
            refine wpQuiet_nil ?_
            rintro _ ⟨⟨w', hB2⟩, rfl⟩
            go_wp2
            go_ret
            exact ⟨ret_bool hr.out.symm, HB.out.trans (hB2.mono HB.out.size)⟩
          | true =>
            cases hc : inB 0 1000000 (D (k)).c with
            | false =>
              have hf : (D (k)).fine = false := by unfold Ev.fine; rw [hc]; simp
              have hr : Hid (beatsB D len = false) := beatsB_false hlt (okAt_fine hf)
              clear HR hf
              go_wp2
              refine wp_region_later (by kernel_rfl) (by kernel_rfl) ?_
              repeat (go_big_quiet_step ((rename_i t; first | with_reducible exact in_later ha t | with_reducible exact in_later hb t | with_reducible exact in_later hc t)))
              refine wpQuiet_nil ?_
              rintro _ ⟨⟨w', hB2⟩, rfl⟩
              go_wp2
              go_ret
              exact ⟨ret_bool hr.out.symm, HB.out.trans (hB2.mono HB.out.size)⟩
            | true =>
              by_cases hd : ((D (k)).d.size : Int) ≤ 20
              · have hf : (D (k)).fine = true := by unfold Ev.fine; rw [ha, hb, hc, decide_eq_true hd]; rfl
                have hdd : decide ((20 : Int) < ((D (k)).d.size : Int)) = false := by simp; omega
                clear hd
                have HR' : Hid (allB (okAt D) (k + 1) = true) := by show _ = _; rw [allB_succ, HR.out, okAt_zero HK0.out hf]; rfl
                clear HR
                go_wp2
                refine wp_region_later (by kernel_rfl) (by kernel_rfl) ?_
                repeat (go_big_quiet_step ((rename_i t; first | with_reducible exact in_later ha t | with_reducible exact in_later hb t | with_reducible exact in_later hc t)))
                refine wpQuiet_nil ?_
                rintro _ ⟨⟨w', hB2⟩, rfl⟩
                go_wp2
                go_roundw
                case rel => exact ⟨k + 1, by omega, by go_num, HR', HB.out.trans (hB2.mono HB.out.size)⟩
                case measure => simp [intOf]; omega
              · have hf : (D (k)).fine = false := by unfold Ev.fine; rw [decide_eq_false hd]; simp
                have hr : Hid (beatsB D len = false) := beatsB_false hlt (okAt_fine hf)
                have hdd : (20 : Int) < ((D (k)).d.size : Int) := by omega
                clear HR hf hd
                go_wp2
                refine wp_region_later (by kernel_rfl) (by kernel_rfl) ?_
                repeat (go_big_quiet_step ((rename_i t; first | with_reducible exact in_later ha t | with_reducible exact in_later hb t | with_reducible exact in_later hc t)))
                refine wpQuiet_nil ?_
                rintro _ ⟨⟨w', hB2⟩, rfl⟩
                go_wp2
                go_ret
                exact ⟨ret_bool hr.out.symm, HB.out.trans (hB2.mono HB.out.size)⟩
      · obtain ⟨j, rfl⟩ : ∃ j, k = j + 1 := ⟨k - 1, by omega⟩
        clear hk0
        have m2 : EvAt wr b (off + j * 4) (D j) := (hcell j (by omega)).grow hbs hB
        have HB : Hid (Below w.heap.size w (wr.alloc (.cells #[.int .i64 (D (j + 1)).a, .int .i64 (D (j + 1)).b, .int .i64 (D (j + 1)).c, .string (D (j + 1)).d] 32))) := hB.alloc hB.size _
        have hne := Later.any (wr.alloc (.cells #[.int .i64 (D (j + 1)).a, .int .i64 (D (j + 1)).b, .int .i64 (D (j + 1)).c, .string (D (j + 1)).d] 32))
        have p0 : ∀ s : Later (wr.alloc (.cells #[.int .i64 (D (j + 1)).a, .int .i64 (D (j + 1)).b, .int .i64 (D (j + 1)).c, .string (D (j + 1)).d] 32)), s.val.cell? ⟨wr.heap.size, 0, none⟩ = some (.int .i64 (D (j + 1)).a) := fun s => s.cell (cellN (heap_alloc_new _ _))
        have p1 : ∀ s : Later (wr.alloc (.cells #[.int .i64 (D (j + 1)).a, .int .i64 (D (j + 1)).b, .int .i64 (D (j + 1)).c, .string (D (j + 1)).d] 32)), s.val.cell? ⟨wr.heap.size, 1, none⟩ = some (.int .i64 (D (j + 1)).b) := fun s => s.cell (cellN (heap_alloc_new _ _))
        have p2 : ∀ s : Later (wr.alloc (.cells #[.int .i64 (D (j + 1)).a, .int .i64 (D (j + 1)).b, .int .i64 (D (j + 1)).c, .string (D (j + 1)).d] 32)), s.val.cell? ⟨wr.heap.size, 2, none⟩ = some (.int .i64 (D (j + 1)).c) := fun s => s.cell (cellN (heap_alloc_new _ _))
        have p3 : ∀ s : Later (wr.alloc (.cells #[.int .i64 (D (j + 1)).a, .int .i64 (D (j + 1)).b, .int .i64 (D (j + 1)).c, .string (D (j + 1)).d] 32)), s.val.cell? ⟨wr.heap.size, 3, none⟩ = some (.string (D (j + 1)).d) := fun s => s.cell (cellN (heap_alloc_new _ _))
        have q0 : ∀ s : Later (wr.alloc (.cells #[.int .i64 (D (j + 1)).a, .int .i64 (D (j + 1)).b, .int .i64 (D (j + 1)).c, .string (D (j + 1)).d] 32)), s.val.cell? ⟨b, off + j * 4, none⟩ = some (.int .i64 (D j).a) := fun s => s.cell ((Below.cell ((Below.refl _ wr).alloc (Nat.le_refl _) _) (p := ⟨b, _, none⟩) (cell_lt m2.c0)).trans m2.c0)
        have q1 : ∀ s : Later (wr.alloc (.cells #[.int .i64 (D (j + 1)).a, .int .i64 (D (j + 1)).b, .int .i64 (D (j + 1)).c, .string (D (j + 1)).d] 32)), s.val.cell? ⟨b, off + j * 4 + 1, none⟩ = some (.int .i64 (D j).b) := fun s => s.cell ((Below.cell ((Below.refl _ wr).alloc (Nat.le_refl _) _) (p := ⟨b, _, none⟩) (cell_lt m2.c1)).trans m2.c1)
        have q2 : ∀ s : Later (wr.alloc (.cells #[.int .i64 (D (j + 1)).a, .int .i64 (D (j + 1)).b, .int .i64 (D (j + 1)).c, .string (D (j + 1)).d] 32)), s.val.cell? ⟨b, off + j * 4 + 2, none⟩ = some (.int .i64 (D j).c) := fun s => s.cell ((Below.cell ((Below.refl _ wr).alloc (Nat.le_refl _) _) (p := ⟨b, _, none⟩) (cell_lt m2.c2)).trans m2.c2)
        have q3 : ∀ s : Later (wr.alloc (.cells #[.int .i64 (D (j + 1)).a, .int .i64 (D (j + 1)).b, .int .i64 (D (j + 1)).c, .string (D (j + 1)).d] 32)), s.val.cell? ⟨b, off + j * 4 + 3, none⟩ = some (.string (D j).d) := fun s => s.cell ((Below.cell ((Below.refl _ wr).alloc (Nat.le_refl _) _) (p := ⟨b, _, none⟩) (cell_lt m2.c3)).trans m2.c3)
        clear hcell hc m2 hB hF
        cases ha : inB 1 1000000 (D (j + 1)).a with
        | false =>
          have hf : (D (j + 1)).fine = false := by unfold Ev.fine; rw [ha]; simp
          have hr : Hid (beatsB D len = false) := beatsB_false hlt (okAt_fine hf)
          clear HR hf
          go_wp2
          refine wp_region_later (by kernel_rfl) (by kernel_rfl) ?_
          repeat (go_big_quiet_step ((rename_i t; first | with_reducible exact in_later ha t)))
          refine wpQuiet_nil ?_
          rintro _ ⟨⟨w', hB2⟩, rfl⟩
          go_wp2
          go_ret
          exact ⟨ret_bool hr.out.symm, HB.out.trans (hB2.mono HB.out.size)⟩
        | true =>
          cases hb : inB 1 1000000 (D (j + 1)).b with
          | false =>
            have hf : (D (j + 1)).fine = false := by unfold Ev.fine; rw [hb]; simp
            have hr : Hid (beatsB D len = false) := beatsB_false hlt (okAt_fine hf)
            clear HR hf
            go_wp2
            refine wp_region_later (by kernel_rfl) (by kernel_rfl) ?_
            repeat (go_big_quiet_step ((rename_i t; first | with_reducible exact in_later ha t | with_reducible exact in_later hb t)))
            refine wpQuiet_nil ?_
            rintro _ ⟨⟨w', hB2⟩, rfl⟩
            go_wp2
            go_ret
            exact ⟨ret_bool hr.out.symm, HB.out.trans (hB2.mono HB.out.size)⟩
          | true =>
            cases hc : inB 0 1000000 (D (j + 1)).c with
            | false =>
              have hf : (D (j + 1)).fine = false := by unfold Ev.fine; rw [hc]; simp
              have hr : Hid (beatsB D len = false) := beatsB_false hlt (okAt_fine hf)
              clear HR hf
              go_wp2
              refine wp_region_later (by kernel_rfl) (by kernel_rfl) ?_
              repeat (go_big_quiet_step ((rename_i t; first | with_reducible exact in_later ha t | with_reducible exact in_later hb t | with_reducible exact in_later hc t)))
              refine wpQuiet_nil ?_
              rintro _ ⟨⟨w', hB2⟩, rfl⟩
              go_wp2
              go_ret
              exact ⟨ret_bool hr.out.symm, HB.out.trans (hB2.mono HB.out.size)⟩
            | true =>
              by_cases hd : ((D (j + 1)).d.size : Int) ≤ 20
              · have hf : (D (j + 1)).fine = true := by unfold Ev.fine; rw [ha, hb, hc, decide_eq_true hd]; rfl
                have hdd : decide ((20 : Int) < ((D (j + 1)).d.size : Int)) = false := by simp; omega
                clear hd
                by_cases he : (D j).a < (D (j + 1)).a
                · have HR' : Hid (allB (okAt D) (j + 1 + 1) = true) := by show _ = _; rw [allB_succ, HR.out, okAt_succ hf, decide_eq_true he]; rfl
                  have hcd : decide ((D (j + 1)).a ≤ (D j).a) = false := by simp; omega
                  clear HR he
                  go_wp2
                  refine wp_region_later (by kernel_rfl) (by kernel_rfl) ?_
                  repeat (go_big_quiet_step ((rename_i t; first | with_reducible exact in_later ha t | with_reducible exact in_later hb t | with_reducible exact in_later hc t)))
                  refine wpQuiet_nil ?_
                  rintro _ ⟨⟨w', hB2⟩, rfl⟩
                  go_wp2
                  go_roundw
                  case rel => exact ⟨j + 1 + 1, by omega, by go_num, HR', HB.out.trans (hB2.mono HB.out.size)⟩
                  case measure => simp [intOf]; omega
                · have hr : Hid (beatsB D len = false) := beatsB_false hlt ((okAt_succ hf).trans (decide_eq_false he))
                  have hcd : (D (j + 1)).a ≤ (D j).a := by omega
                  clear HR he
                  go_wp2
                  refine wp_region_later (by kernel_rfl) (by kernel_rfl) ?_
                  repeat (go_big_quiet_step ((rename_i t; first | with_reducible exact in_later ha t | with_reducible exact in_later hb t | with_reducible exact in_later hc t)))
                  refine wpQuiet_nil ?_
                  rintro _ ⟨⟨w', hB2⟩, rfl⟩
                  go_wp2
                  go_ret
                  exact ⟨ret_bool hr.out.symm, HB.out.trans (hB2.mono HB.out.size)⟩
              · have hf : (D (j + 1)).fine = false := by unfold Ev.fine; rw [decide_eq_false hd]; simp
                have hr : Hid (beatsB D len = false) := beatsB_false hlt (okAt_fine hf)
                have hdd : (20 : Int) < ((D (j + 1)).d.size : Int) := by omega
                clear HR hf hd
                go_wp2
                refine wp_region_later (by kernel_rfl) (by kernel_rfl) ?_
                repeat (go_big_quiet_step ((rename_i t; first | with_reducible exact in_later ha t | with_reducible exact in_later hb t | with_reducible exact in_later hc t)))
                refine wpQuiet_nil ?_
                rintro _ ⟨⟨w', hB2⟩, rfl⟩
                go_wp2
                go_ret
                exact ⟨ret_bool hr.out.symm, HB.out.trans (hB2.mono HB.out.size)⟩
    · have hke : k = len := by omega
      subst hke
      have hr : Hid (beatsB D k = decide ((k : Int) ≤ 12)) := by
        show _ = _
        unfold beatsB
        rw [HR.out, Bool.and_true]
        by_cases h : k ≤ 12
        · simp [h]
          omega
        · simp [h]
          omega
      clear HR
      go_wp2
      go_ret
      exact ⟨ret_bool hr.out.symm, hB⟩

set_option maxHeartbeats 4000000 in
theorem implBeats_any (a : Option Addr) (len cap : Nat) (D : Nat → Ev) (w : World) (h : IsEvs w a len cap D) (hF : ∀ i, i < len → (D i).in) :
    Calls Try.prog 13 #[.slice a len cap] w fun e w' => e = .returned (.bool (beatsB D len)) ∧ Below w.heap.size w w' := by
  obtain ⟨hlc, hcm, hc⟩ := h
  by_cases h30 : 12 < len
  · have hr : Hid (beatsB D len = false) := by
      show _ = _
      unfold beatsB
      rw [decide_eq_false (by omega)]; rfl
    have h30' : (12 : Int) < (len : Int) := by omega
    clear hc
    go_enter Try.func13, Try.ntmps13
    go_wp2
    go_ret
    exact ⟨ret_bool hr.out.symm, Below.refl _ _⟩
  have hle : len ≤ 12 := by omega
  have hleI : decide ((12 : Int) < (len : Int)) = false := by simp; omega
  clear h30
  go_enter Try.func13, Try.ntmps13
  go_wp2
  go_loopw [10] (fun i wr => ∃ (k : Nat), k ≤ len ∧ i = .int .i64 k ∧ Hid (allB (okAt D) k = true) ∧ Below w.heap.size w wr) (fun i _ => len - (intOf i).toNat)
  case atStart => exact ⟨0, Nat.zero_le _, rfl, rfl, Below.refl _ _⟩
  case round =>
    obtain ⟨k, hk, rfl, HR, hB⟩ := hrel
    by_cases hlt : k < len
    · obtain ⟨b, off, rfl, hbs, hcell⟩ := hc (by omega)
      have hltI : (k : Int) < (len : Int) := by omega
      have hxk : (D k).d.size ≤ 9223372036854775807 := hF k hlt
      have m1 : EvAt wr b (off + k * 4) (D k) := (hcell k hlt).grow hbs hB
      obtain ⟨c0, c1, c2, c3⟩ := m1
      by_cases hk0 : k = 0
      · have HB : Hid (Below w.heap.size w (wr.alloc (.cells #[.int .i64 (D k).a, .int .i64 (D k).b, .int .i64 (D k).c, .string (D k).d] 32))) := hB.alloc hB.size _
        have HK0 : Hid (k = 0) := hk0
        have hk0n : ¬ (0 < k) := by omega
        have hk0i : (k : Int) ≤ 0 := by omega
        have hk0d : decide ((0 : Int) < (k : Int)) = false := by simp; omega
        have hne := Later.any (wr.alloc (.cells #[.int .i64 (D (k)).a, .int .i64 (D (k)).b, .int .i64 (D (k)).c, .string (D (k)).d] 32))
        have p0 : ∀ s : Later (wr.alloc (.cells #[.int .i64 (D (k)).a, .int .i64 (D (k)).b, .int .i64 (D (k)).c, .string (D (k)).d] 32)), s.val.cell? ⟨wr.heap.size, 0, none⟩ = some (.int .i64 (D (k)).a) := fun s => s.cell (cellN (heap_alloc_new _ _))
        have p1 : ∀ s : Later (wr.alloc (.cells #[.int .i64 (D (k)).a, .int .i64 (D (k)).b, .int .i64 (D (k)).c, .string (D (k)).d] 32)), s.val.cell? ⟨wr.heap.size, 1, none⟩ = some (.int .i64 (D (k)).b) := fun s => s.cell (cellN (heap_alloc_new _ _))
        have p2 : ∀ s : Later (wr.alloc (.cells #[.int .i64 (D (k)).a, .int .i64 (D (k)).b, .int .i64 (D (k)).c, .string (D (k)).d] 32)), s.val.cell? ⟨wr.heap.size, 2, none⟩ = some (.int .i64 (D (k)).c) := fun s => s.cell (cellN (heap_alloc_new _ _))
        have p3 : ∀ s : Later (wr.alloc (.cells #[.int .i64 (D (k)).a, .int .i64 (D (k)).b, .int .i64 (D (k)).c, .string (D (k)).d] 32)), s.val.cell? ⟨wr.heap.size, 3, none⟩ = some (.string (D (k)).d) := fun s => s.cell (cellN (heap_alloc_new _ _))
        clear hcell hc hB hk0 hF
        cases hf : (D (k)).fine with
        | false =>
          have hr : Hid (beatsB D len = false) := beatsB_false hlt (okAt_fine hf)
          clear HR
          go_wp2
          refine wp_region_later (by kernel_rfl) (by kernel_rfl) ?_
          repeat (go_big_quiet_step ((rename_i t; first | with_reducible exact beatOk_later hxk hf t)))
          refine wpQuiet_nil ?_
          rintro _ ⟨⟨w', hB2⟩, rfl⟩
          go_wp2
          go_ret
          exact ⟨ret_bool hr.out.symm, HB.out.trans (hB2.mono HB.out.size)⟩
        | true =>
          have HR' : Hid (allB (okAt D) (k + 1) = true) := by show _ = _; rw [allB_succ, HR.out, okAt_zero HK0.out hf]; rfl
          clear HR
          go_wp2
          refine wp_region_later (by kernel_rfl) (by kernel_rfl) ?_
          repeat (go_big_quiet_step ((rename_i t; first | with_reducible exact beatOk_later hxk hf t)))
          refine wpQuiet_nil ?_
          rintro _ ⟨⟨w', hB2⟩, rfl⟩
          go_wp2
          go_roundw
          case rel => exact ⟨k + 1, by omega, by go_num, HR', HB.out.trans (hB2.mono HB.out.size)⟩
          case measure => simp [intOf]; omega
      · obtain ⟨j, rfl⟩ : ∃ j, k = j + 1 := ⟨k - 1, by omega⟩
        clear hk0
        have m2 : EvAt wr b (off + j * 4) (D j) := (hcell j (by omega)).grow hbs hB
        have HB : Hid (Below w.heap.size w (wr.alloc (.cells #[.int .i64 (D (j + 1)).a, .int .i64 (D (j + 1)).b, .int .i64 (D (j + 1)).c, .string (D (j + 1)).d] 32))) := hB.alloc hB.size _
        have hne := Later.any (wr.alloc (.cells #[.int .i64 (D (j + 1)).a, .int .i64 (D (j + 1)).b, .int .i64 (D (j + 1)).c, .string (D (j + 1)).d] 32))
        have p0 : ∀ s : Later (wr.alloc (.cells #[.int .i64 (D (j + 1)).a, .int .i64 (D (j + 1)).b, .int .i64 (D (j + 1)).c, .string (D (j + 1)).d] 32)), s.val.cell? ⟨wr.heap.size, 0, none⟩ = some (.int .i64 (D (j + 1)).a) := fun s => s.cell (cellN (heap_alloc_new _ _))
        have p1 : ∀ s : Later (wr.alloc (.cells #[.int .i64 (D (j + 1)).a, .int .i64 (D (j + 1)).b, .int .i64 (D (j + 1)).c, .string (D (j + 1)).d] 32)), s.val.cell? ⟨wr.heap.size, 1, none⟩ = some (.int .i64 (D (j + 1)).b) := fun s => s.cell (cellN (heap_alloc_new _ _))
        have p2 : ∀ s : Later (wr.alloc (.cells #[.int .i64 (D (j + 1)).a, .int .i64 (D (j + 1)).b, .int .i64 (D (j + 1)).c, .string (D (j + 1)).d] 32)), s.val.cell? ⟨wr.heap.size, 2, none⟩ = some (.int .i64 (D (j + 1)).c) := fun s => s.cell (cellN (heap_alloc_new _ _))
        have p3 : ∀ s : Later (wr.alloc (.cells #[.int .i64 (D (j + 1)).a, .int .i64 (D (j + 1)).b, .int .i64 (D (j + 1)).c, .string (D (j + 1)).d] 32)), s.val.cell? ⟨wr.heap.size, 3, none⟩ = some (.string (D (j + 1)).d) := fun s => s.cell (cellN (heap_alloc_new _ _))
        have q0 : ∀ s : Later (wr.alloc (.cells #[.int .i64 (D (j + 1)).a, .int .i64 (D (j + 1)).b, .int .i64 (D (j + 1)).c, .string (D (j + 1)).d] 32)), s.val.cell? ⟨b, off + j * 4, none⟩ = some (.int .i64 (D j).a) := fun s => s.cell ((Below.cell ((Below.refl _ wr).alloc (Nat.le_refl _) _) (p := ⟨b, _, none⟩) (cell_lt m2.c0)).trans m2.c0)
        have q1 : ∀ s : Later (wr.alloc (.cells #[.int .i64 (D (j + 1)).a, .int .i64 (D (j + 1)).b, .int .i64 (D (j + 1)).c, .string (D (j + 1)).d] 32)), s.val.cell? ⟨b, off + j * 4 + 1, none⟩ = some (.int .i64 (D j).b) := fun s => s.cell ((Below.cell ((Below.refl _ wr).alloc (Nat.le_refl _) _) (p := ⟨b, _, none⟩) (cell_lt m2.c1)).trans m2.c1)
        have q2 : ∀ s : Later (wr.alloc (.cells #[.int .i64 (D (j + 1)).a, .int .i64 (D (j + 1)).b, .int .i64 (D (j + 1)).c, .string (D (j + 1)).d] 32)), s.val.cell? ⟨b, off + j * 4 + 2, none⟩ = some (.int .i64 (D j).c) := fun s => s.cell ((Below.cell ((Below.refl _ wr).alloc (Nat.le_refl _) _) (p := ⟨b, _, none⟩) (cell_lt m2.c2)).trans m2.c2)
        have q3 : ∀ s : Later (wr.alloc (.cells #[.int .i64 (D (j + 1)).a, .int .i64 (D (j + 1)).b, .int .i64 (D (j + 1)).c, .string (D (j + 1)).d] 32)), s.val.cell? ⟨b, off + j * 4 + 3, none⟩ = some (.string (D j).d) := fun s => s.cell ((Below.cell ((Below.refl _ wr).alloc (Nat.le_refl _) _) (p := ⟨b, _, none⟩) (cell_lt m2.c3)).trans m2.c3)
        clear hcell hc m2 hB hF
        cases hf : (D (j + 1)).fine with
        | false =>
          have hr : Hid (beatsB D len = false) := beatsB_false hlt (okAt_fine hf)
          clear HR
          go_wp2
          refine wp_region_later (by kernel_rfl) (by kernel_rfl) ?_
          repeat (go_big_quiet_step ((rename_i t; first | with_reducible exact beatOk_later hxk hf t)))
          refine wpQuiet_nil ?_
          rintro _ ⟨⟨w', hB2⟩, rfl⟩
          go_wp2
          go_ret
          exact ⟨ret_bool hr.out.symm, HB.out.trans (hB2.mono HB.out.size)⟩
        | true =>
          by_cases he : (D j).a < (D (j + 1)).a
          · have HR' : Hid (allB (okAt D) (j + 1 + 1) = true) := by show _ = _; rw [allB_succ, HR.out, okAt_succ hf, decide_eq_true he]; rfl
            have hcd : decide ((D (j + 1)).a ≤ (D j).a) = false := by simp; omega
            clear HR he
            go_wp2
            refine wp_region_later (by kernel_rfl) (by kernel_rfl) ?_
            repeat (go_big_quiet_step ((rename_i t; first | with_reducible exact beatOk_later hxk hf t)))
            refine wpQuiet_nil ?_
            rintro _ ⟨⟨w', hB2⟩, rfl⟩
            go_wp2
            go_roundw
            case rel => exact ⟨j + 1 + 1, by omega, by go_num, HR', HB.out.trans (hB2.mono HB.out.size)⟩
            case measure => simp [intOf]; omega
          · have hr : Hid (beatsB D len = false) := beatsB_false hlt ((okAt_succ hf).trans (decide_eq_false he))
            have hcd : (D (j + 1)).a ≤ (D j).a := by omega
            clear HR he
            go_wp2
            refine wp_region_later (by kernel_rfl) (by kernel_rfl) ?_
            repeat (go_big_quiet_step ((rename_i t; first | with_reducible exact beatOk_later hxk hf t)))
            refine wpQuiet_nil ?_
            rintro _ ⟨⟨w', hB2⟩, rfl⟩
            go_wp2
            go_ret
            exact ⟨ret_bool hr.out.symm, HB.out.trans (hB2.mono HB.out.size)⟩
    · have hke : k = len := by omega
      subst hke
      have hr : Hid (beatsB D k = true) := by
        show _ = _
        unfold beatsB
        rw [HR.out, decide_eq_true hle]; rfl
      clear HR
      go_wp2
      go_ret
      exact ⟨ret_bool hr.out.symm, hB⟩

end Go.Proofs.Ytnjlegphohmajaa
