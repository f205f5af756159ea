/-
  The specification's l5Block: the state behind one block.
-/
import Derived.Test.YtlibipbpaigmdaaGreatDoorTab
import Derived.StillTailTactics
namespace Go.Proofs.YtlibipbpaigmdaaGreatDoor
open Go.RowKit
set_option linter.unusedVariables false

theorem made64 : madeCells #[Value.int .u32 0] 64 = wc (fun _ => 0) 0 := by kernel_rfl

theorem make64 (w : World) : (Instr.makeSlice 192 (.int .i64 64) (.int .i64 64)).run Tryz.prog w = .ok (.slice (some ⟨w.heap.size, 0, none⟩) 64 64) (w.alloc (.cells (wc (fun _ => 0) 0) 172)) := by
  obtain ⟨i0, hi, hz0, hz1, hz2⟩ := info_parts info172
  have := run_make (P := Tryz.prog) w 192 172 i0 (.int .u32 0) Tryz.underlying192 hi hz0 .i64 .i64 64 64 (by omega) (by omega) (by rw [hz2]; omega) (by omega)
  rw [hz1] at this
  rw [← made64]
  simpa [Value.cells] using this

/-- what a block is worked out of: a state, the round words, 64 bytes -/
structure BlkIn (w : World) (s : S8) (gh gk gb o : Nat) (B : Nat → Int) : Prop where
  h : w.heap[gh]? = some (.cells s.cells 172 (0, 0))
  k : ∀ i, i < 64 → w.cell? ⟨gk, i, none⟩ = some (.int .u32 (kW i))
  b : ∀ i, i < 64 → w.cell? ⟨gb, o + i, none⟩ = some (.int .u8 (B i))
  r : ∀ i, i < 64 → 0 ≤ B i ∧ B i ≤ 255

set_option maxRecDepth 10000 in
set_option maxHeartbeats 6400000 in
theorem l5Block_any (s : S8) (gh gk gb o cb : Nat) (B : Nat → Int) (hcb : 64 ≤ cb) (w : World) (hI : BlkIn w s gh gk gb o B) :
    Calls Tryz.prog 194 #[.slice (some ⟨gh, 0, none⟩) 8 8, .slice (some ⟨gk, 0, none⟩) 64 64, .slice (some ⟨gb, o, none⟩) 64 cb] w fun e w' => ∃ g, e = .returned (.slice (some ⟨g, 0, none⟩) 8 8) ∧ w.heap.size ≤ g ∧ w'.heap[g]? = some (.cells (stir kW s B).cells 172 (0, 0)) ∧ Below w.heap.size w w' := by
  have hmk := make64 w
  go_enter Tryz.func194, Tryz.ntmps194
  go_wp2
  clear hmk
  go_loopw [8] (fun i wr => ∃ k : Nat, k ≤ 64 ∧ i = .int .i64 k ∧ wr.heap[w.heap.size]? = some (.cells (wc (sch B) k) 172 (0, 0)) ∧ Below w.heap.size w wr) (fun i _ => 64 - (intOf i).toNat)
  case atStart => exact ⟨0, by omega, rfl, heap_alloc_new w _, (Below.refl _ _).alloc (Nat.le_refl _) _⟩
  case round =>
    obtain ⟨k, hk, rfl, hA, hBel⟩ := hrel
    have HI : Hid (BlkIn w s gh gk gb o B) := hI
    have HBel : Hid (Below w.heap.size w wr) := hBel
    by_cases hlt : k < 64
    · have hltI : (k : Int) < 64 := by omega
      obtain ⟨v0, hv0⟩ := wc_any (sch B) (k := k) hlt
      have HL : Hid (∀ (z : Int), sch B k = z → (wr.drew.setCell ⟨w.heap.size, k, none⟩ (.int .u32 z)).heap[w.heap.size]? = some (.cells (wc (sch B) (k + 1)) 172 (0, 0)) ∧ Below w.heap.size w (wr.drew.setCell ⟨w.heap.size, k, none⟩ (.int .u32 z))) := by
        intro z hz
        refine ⟨?_, (hBel.drew).setCell (p := ⟨w.heap.size, k, none⟩) (Nat.le_refl _) _⟩
        rw [heap_setCell_same wr.drew w.heap.size k _ 172 _ hA, ← hz, wc_set (sch B) k hlt]
      obtain ⟨wd, hwd⟩ : ∃ wd, wd = wr.drew := ⟨_, rfl⟩
      have c0 : wd.cell? ⟨w.heap.size, k, none⟩ = some v0 := by rw [hwd]; exact (cell_of hA).trans hv0
      have f0 : wd.frozen? ⟨w.heap.size, k, none⟩ = false := by rw [hwd]; exact froz_of hA
      by_cases h16 : k < 16
      · have h16I : (k : Int) < 16 := by omega
        obtain ⟨j0, hj0⟩ : ∃ j, j = 4 * k := ⟨_, rfl⟩
        obtain ⟨j1, hj1⟩ : ∃ j, j = 4 * k + 1 := ⟨_, rfl⟩
        obtain ⟨j2, hj2⟩ : ∃ j, j = 4 * k + 2 := ⟨_, rfl⟩
        obtain ⟨j3, hj3⟩ : ∃ j, j = 4 * k + 3 := ⟨_, rfl⟩
        have hz := sch_low B h16
        rw [← hj1, ← hj2, ← hj3, ← hj0] at hz
        have w0 : IntKind.i64.wrap (4 * (k : Int)) = (j0 : Int) := by rw [IntKind.wrap_i64]; omega
        have w1 : IntKind.i64.wrap ((j0 : Int) + 1) = (j1 : Int) := by rw [IntKind.wrap_i64]; omega
        have w2 : IntKind.i64.wrap ((j0 : Int) + 2) = (j2 : Int) := by rw [IntKind.wrap_i64]; omega
        have w3 : IntKind.i64.wrap ((j0 : Int) + 3) = (j3 : Int) := by rw [IntKind.wrap_i64]; omega
        have i0 : (j0 : Int) < 64 := by omega
        have i1 : (j1 : Int) < 64 := by omega
        have i2 : (j2 : Int) < 64 := by omega
        have i3 : (j3 : Int) < 64 := by omega
        have l0 : j0 < 64 := by omega
        have l1 : j1 < 64 := by omega
        have l2 : j2 < 64 := by omega
        have l3 : j3 < 64 := by omega
        have d : ∀ j, j < 64 → wd.cell? ⟨gb, o + j, none⟩ = some (.int .u8 (B j)) := fun j hj => by rw [hwd]; exact (hBel.cell (p := ⟨gb, o + j, none⟩) (cell_lt (hI.b j hj))).trans (hI.b j hj)
        have r0 := hI.r j0 l0
        have r1 := hI.r j1 l1
        have r2 := hI.r j2 l2
        have r3 := hI.r j3 l3
        have d0 := d j0 l0
        have d1 := d j1 l1
        have d2 := d j2 l2
        have d3 := d j3 l3
        have HZ : Hid (_) := hz
        clear hz d hI hBel hA hv0 hj0 hj1 hj2 hj3
        generalize B j0 = b0 at *
        generalize B j1 = b1 at *
        generalize B j2 = b2 at *
        generalize B j3 = b3 at *
        have q0 : IntKind.u32.wrap b0 = b0 := wrap_u32_in (by omega) (by omega)
        have q1 : IntKind.u32.wrap b1 = b1 := wrap_u32_in (by omega) (by omega)
        have q2 : IntKind.u32.wrap b2 = b2 := wrap_u32_in (by omega) (by omega)
        have q3 : IntKind.u32.wrap b3 = b3 := wrap_u32_in (by omega) (by omega)
        have p0 : IntKind.u32.wrap (b0 * 16777216) = b0 * 16777216 := wrap_u32_in (by omega) (by omega)
        have p1 : IntKind.u32.wrap (b1 * 65536) = b1 * 65536 := wrap_u32_in (by omega) (by omega)
        have p2 : IntKind.u32.wrap (b2 * 256) = b2 * 256 := wrap_u32_in (by omega) (by omega)
        go_wp2
        refine wp_region_still_tail 36 (by kernel_rfl) (by kernel_rfl) ?_
        simp only [List.take_succ_cons, List.take_zero, List.drop_succ_cons, List.drop_zero]
        rw [show ({ wr with drawn := wr.drawn + 1 } : World) = wd from hwd.symm]
        have HWD : Hid (wd = wr.drew) := hwd
        clear hwd
        repeat still_step
        refine wpStill_nil ?_
        go_wp2
        have HN := HL.out _ HZ.out
        rw [← HWD.out] at HN
        exact ⟨⟨k + 1, by omega, by go_num, HN.1, HN.2⟩, by simp [intOf]; omega⟩
      · have h16I : ¬ (k : Int) < 16 := by omega
        obtain ⟨j2, hj2⟩ : ∃ j, j = k - 2 := ⟨_, rfl⟩
        obtain ⟨j7, hj7⟩ : ∃ j, j = k - 7 := ⟨_, rfl⟩
        obtain ⟨j15, hj15⟩ : ∃ j, j = k - 15 := ⟨_, rfl⟩
        obtain ⟨j16, hj16⟩ : ∃ j, j = k - 16 := ⟨_, rfl⟩
        have hz := sch_high B h16
        rw [← hj2, ← hj7, ← hj15, ← hj16] at hz
        have hcl : ∀ j, j < k → wr.cell? ⟨w.heap.size, j, none⟩ = some (.int .u32 (sch B j)) := fun j hj => (cell_of hA).trans (wc_at _ hj (by omega))
        have c2 := hcl j2 (by omega)
        have c15 := hcl j15 (by omega)
        have e7 : wd.cell? ⟨w.heap.size, j7, none⟩ = some (.int .u32 (sch B j7)) := by rw [hwd]; exact hcl j7 (by omega)
        have e16 : wd.cell? ⟨w.heap.size, j16, none⟩ = some (.int .u32 (sch B j16)) := by rw [hwd]; exact hcl j16 (by omega)
        have w2 : IntKind.i64.wrap ((k : Int) - 2) = (j2 : Int) := by rw [IntKind.wrap_i64]; omega
        have w7 : IntKind.i64.wrap ((k : Int) - 7) = (j7 : Int) := by rw [IntKind.wrap_i64]; omega
        have w15 : IntKind.i64.wrap ((k : Int) - 15) = (j15 : Int) := by rw [IntKind.wrap_i64]; omega
        have w16 : IntKind.i64.wrap ((k : Int) - 16) = (j16 : Int) := by rw [IntKind.wrap_i64]; omega
        have v2 : (k : Int) - 2 = (j2 : Int) := by omega
        have v15 : (k : Int) - 15 = (j15 : Int) := by omega
        have i2 : (j2 : Int) < 64 := by omega
        have i7 : (j7 : Int) < 64 := by omega
        have i15 : (j15 : Int) < 64 := by omega
        have i16 : (j16 : Int) < 64 := by omega
        have HZ : Hid (sch B k = (nearM (sch B j2) + sch B j7 + farM (sch B j15) + sch B j16) % 4294967296) := by
          show _ = _
          rw [hz]
          omega
        clear hz hcl hI hBel hA hv0 hj2 hj7 hj15 hj16
        generalize sch B j2 = x2 at *
        generalize sch B j7 = x7 at *
        generalize sch B j15 = x15 at *
        generalize sch B j16 = x16 at *
        go_wp2
        refine wp_region_still_tail 32 (by kernel_rfl) (by kernel_rfl) ?_
        simp only [List.take_succ_cons, List.take_zero, List.drop_succ_cons, List.drop_zero]
        rw [show ({ wr with drawn := wr.drawn + 1 } : World) = wd from hwd.symm]
        have HWD : Hid (wd = wr.drew) := hwd
        clear hwd
        iterate 3 still_step
        still_call (turn_all 17 x2 (by unfold Place; omega) wd)
        still_step
        still_call (turn_all 19 x2 (by unfold Place; omega) wd)
        iterate 11 still_step
        still_call (turn_all 7 x15 (by unfold Place; omega) wd)
        still_step
        still_call (turn_all 18 x15 (by unfold Place; omega) wd)
        repeat still_step
        refine wpStill_nil ?_
        go_wp2
        have HN := HL.out _ HZ.out
        rw [← HWD.out] at HN
        exact ⟨⟨k + 1, by omega, by go_num, HN.1, HN.2⟩, by simp [intOf]; omega⟩
    · have hk64 : k = 64 := by omega
      subst hk64
      obtain ⟨wv, hwv⟩ : ∃ wv, wv = wr := ⟨_, rfl⟩
      rw [← hwv] at hA hBel HBel ⊢
      clear hwv
      have hh : wv.heap[gh]? = some (.cells s.cells 172 (0, 0)) := (hBel.block _ (lt_of_block hI.h)).trans hI.h
      obtain ⟨sa, sb, sc, sd, se, sf, sg, sh⟩ := s
      have c0 : wv.cell? ⟨gh, 0, none⟩ = some (.int .u32 sa) := cell_of hh
      have c1 : wv.cell? ⟨gh, 1, none⟩ = some (.int .u32 sb) := cell_of hh
      have c2 : wv.cell? ⟨gh, 2, none⟩ = some (.int .u32 sc) := cell_of hh
      have c3 : wv.cell? ⟨gh, 3, none⟩ = some (.int .u32 sd) := cell_of hh
      have c4 : wv.cell? ⟨gh, 4, none⟩ = some (.int .u32 se) := cell_of hh
      have c5 : wv.cell? ⟨gh, 5, none⟩ = some (.int .u32 sf) := cell_of hh
      have c6 : wv.cell? ⟨gh, 6, none⟩ = some (.int .u32 sg) := cell_of hh
      have c7 : wv.cell? ⟨gh, 7, none⟩ = some (.int .u32 sh) := cell_of hh
      have hKv : ∀ i, i < 64 → wv.cell? ⟨gk, i, none⟩ = some (.int .u32 (kW i)) := fun i hi => (hBel.cell (p := ⟨gk, i, none⟩) (cell_lt (hI.k i hi))).trans (hI.k i hi)
      have hWv : ∀ i, i < 64 → wv.cell? ⟨w.heap.size, i, none⟩ = some (.int .u32 (sch B i)) := fun i hi => (cell_of hA).trans (wc_at _ hi hi)
      have hnl : ¬ ((64 : Nat) : Int) < 64 := by omega
      clear hh hA hBel hI HI hlt hk
      go_wp2
      go_loopw [11, 12, 13, 14, 15, 16, 17, 18, 19] (fun x0 x1 x2 x3 x4 x5 x6 x7 i wr => ∃ (k m : Nat) (t : S8), k ≤ 64 ∧ i = .int .i64 k ∧ Hid (t = rds kW (sch B) ⟨sa, sb, sc, sd, se, sf, sg, sh⟩ k) ∧ wr = wv.drewN m ∧ x0 = .int .u32 t.a ∧ x1 = .int .u32 t.b ∧ x2 = .int .u32 t.c ∧ x3 = .int .u32 t.d ∧ x4 = .int .u32 t.e ∧ x5 = .int .u32 t.f ∧ x6 = .int .u32 t.g ∧ x7 = .int .u32 t.h)
        (fun _ _ _ _ _ _ _ _ i _ => 64 - (intOf i).toNat)
      case atStart => exact ⟨0, 0, ⟨sa, sb, sc, sd, se, sf, sg, sh⟩, by omega, rfl, (by show _ = _; rfl), rfl, rfl, rfl, rfl, rfl, rfl, rfl, rfl, rfl⟩
      case round =>
        obtain ⟨k, m, ⟨ta, tb, tc, td, te, tf, tg, th⟩, hk, rfl, ht, rfl, rfl, rfl, rfl, rfl, rfl, rfl, rfl, rfl⟩ := hrel
        by_cases hlt : k < 64
        · have hltI : (k : Int) < 64 := by omega
          have hwc := hWv k hlt
          have hkc := hKv k hlt
          clear hWv hKv
          have HR : Hid (rds kW (sch B) ⟨sa, sb, sc, sd, se, sf, sg, sh⟩ (k + 1) = rnd (kW k) (sch B k) (rds kW (sch B) ⟨sa, sb, sc, sd, se, sf, sg, sh⟩ k)) := rfl
          rw [← ht.out] at HR
          generalize sch B k = W at hwc HR
          generalize kW k = kk at hkc HR
          go_wp2
          go_quiet ((go_at_call 228; refine (turn_all _ _ (by unfold Place; omega) _).mono ?_; rintro e w1 ⟨rfl, rfl⟩; exact ⟨rfl, _, rfl⟩))
          go_wp2_with (go_at_call 228; refine (turn_all _ _ (by unfold Place; omega) _).mono ?_; rintro e w1 ⟨rfl, rfl⟩)
          refine ⟨⟨k + 1, m + nq, rnd kk W ⟨ta, tb, tc, td, te, tf, tg, th⟩, by omega, by go_num, HR.out.symm, rfl, ?_, rfl, rfl, rfl, ?_, rfl, rfl, rfl⟩, by simp [intOf]; omega⟩
          · refine congrArg (Value.int .u32) ?_
            simp only [rnd, low, upp, xo, an, nt]
          · refine congrArg (Value.int .u32) ?_
            simp only [rnd, low, upp, xo, an, nt]
        · have hk64 : k = 64 := by omega
          subst hk64
          have HF : Hid ((stir kW ⟨sa, sb, sc, sd, se, sf, sg, sh⟩ B) = plus ⟨sa, sb, sc, sd, se, sf, sg, sh⟩ ⟨ta, tb, tc, td, te, tf, tg, th⟩) := by
            show _ = _
            unfold stir
            rw [← ht.out]
          have hnl2 : ¬ ((64 : Nat) : Int) < 64 := by omega
          clear hWv hKv ht
          obtain ⟨wd, hwd⟩ : ∃ wd, wd = (wv.drewN m).drew := ⟨_, rfl⟩
          have d0 : wd.cell? ⟨gh, 0, none⟩ = some (.int .u32 sa) := by rw [hwd]; exact c0
          have d1 : wd.cell? ⟨gh, 1, none⟩ = some (.int .u32 sb) := by rw [hwd]; exact c1
          have d2 : wd.cell? ⟨gh, 2, none⟩ = some (.int .u32 sc) := by rw [hwd]; exact c2
          have d3 : wd.cell? ⟨gh, 3, none⟩ = some (.int .u32 sd) := by rw [hwd]; exact c3
          have d4 : wd.cell? ⟨gh, 4, none⟩ = some (.int .u32 se) := by rw [hwd]; exact c4
          have d5 : wd.cell? ⟨gh, 5, none⟩ = some (.int .u32 sf) := by rw [hwd]; exact c5
          have d6 : wd.cell? ⟨gh, 6, none⟩ = some (.int .u32 sg) := by rw [hwd]; exact c6
          have d7 : wd.cell? ⟨gh, 7, none⟩ = some (.int .u32 sh) := by rw [hwd]; exact c7
          have HBd : Hid (Below w.heap.size w wd) := by rw [hwd]; exact (below_drewN HBel.out m).drew
          clear c0 c1 c2 c3 c4 c5 c6 c7
          go_wp2
          refine wp_region_still_tail 40 (by kernel_rfl) (by kernel_rfl) ?_
          simp only [List.take_succ_cons, List.take_zero, List.drop_succ_cons, List.drop_zero]
          rw [show ({ wv.drewN m with drawn := (wv.drewN m).drawn + 1 } : World) = wd from hwd.symm]
          clear hwd
          repeat still_step
          refine wpStill_nil ?_
          go_wp2
          go_ret
          refine ⟨wd.heap.size, rfl, HBd.out.size, ?_, HBd.out.alloc HBd.out.size _⟩
          rw [HF.out]
          exact heap_alloc_new wd _
end Go.Proofs.YtlibipbpaigmdaaGreatDoor
