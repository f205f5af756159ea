/-
  stirredAll goes through whole blocks.
-/
import Derived.Test.YtlibipbpaigmdaaGreatDoorBlocks
import Derived.Deep.RegionLaw
namespace Go.Proofs.YtlibipbpaigmdaaGreatDoor
open Go.RowKit
set_option linter.unusedVariables false

theorem bt_extract (s : ByteArray) {a b i : Nat} (hb : b ≤ s.size) (h : a + i < b) : bt (s.extract a b) i = bt s (a + i) := by
  have h1 : i < (s.extract a b).size := by rw [ByteArray.size_extract]; omega
  have e1 := bl_at h1
  have e2 := bl_at (s := s) (i := a + i) (by omega)
  rw [bl_extract, List.getElem?_drop, List.getElem?_take_of_lt h, e2] at e1
  exact (Option.some.inj e1).symm

def z8 : Array Value := st8 0 0 0 0 0 0 0 0

theorem cellsAt {w : World} {b : Nat} {s : S8} (h : w.heap[b]? = some (.cells s.cells 173 (0, 0))) :
    w.cell? ⟨b, 0, none⟩ = some (.int .u32 s.a) ∧ w.cell? ⟨b, 1, none⟩ = some (.int .u32 s.b) ∧ w.cell? ⟨b, 2, none⟩ = some (.int .u32 s.c) ∧ w.cell? ⟨b, 3, none⟩ = some (.int .u32 s.d) ∧ w.cell? ⟨b, 4, none⟩ = some (.int .u32 s.e) ∧ w.cell? ⟨b, 5, none⟩ = some (.int .u32 s.f) ∧ w.cell? ⟨b, 6, none⟩ = some (.int .u32 s.g) ∧ w.cell? ⟨b, 7, none⟩ = some (.int .u32 s.h) :=
  ⟨cell_of h, cell_of h, cell_of h, cell_of h, cell_of h, cell_of h, cell_of h, cell_of h⟩

theorem store8 {w : World} {b : Nat} {s : S8} (t : S8) (h : w.heap[b]? = some (.cells s.cells 173 (0, 0))) :
    (storeCells ⟨b, 0, none⟩ t.cells.toList).run Tryz.prog w = .ok () (w.setRow b t.cells) := by
  have := run_storeCells_from (P := Tryz.prog) b 173 t.cells.toList 0 s.cells w h (by rfl) (by intro v hv; simp [S8.cells, st8] at hv; rcases hv with rfl | rfl | rfl | rfl | rfl | rfl | rfl | rfl <;> rfl)
  simpa using this

/-- the state behind one block more -/
theorem laid8 {w wr w1 : World} {t u : S8} (hA : wr.heap[w.heap.size]? = some (.cells t.cells 173 (0, 0))) (hB : wr.heap[w.heap.size + 1]? = some (.cells z8 173 (0, 0))) (hBel : Below w.heap.size w wr) (h1 : Below wr.heap.size wr w1) :
    (w1.setRow w.heap.size u.cells).heap[w.heap.size]? = some (.cells u.cells 173 (0, 0)) ∧ (w1.setRow w.heap.size u.cells).heap[w.heap.size + 1]? = some (.cells z8 173 (0, 0)) ∧ Below w.heap.size w (w1.setRow w.heap.size u.cells) := by
  refine ⟨setRow_heap _ _ _ _ _ _ ((h1.block _ (lt_of_block hA)).trans hA), ?_, below_setRow (hBel.trans (h1.mono hBel.size)) (Nat.le_refl _) _⟩
  rw [setRow_other _ _ _ _ (by omega)]
  exact (h1.block _ (lt_of_block hB)).trans hB

set_option maxRecDepth 10000 in
set_option maxHeartbeats 1600000 in
theorem stirredAll_any (s0 : S8) (s : ByteArray) (n : Nat) (hs : s.size = 64 * n) (hsl : s.size ≤ 10000000) (K : Nat → Int) (w : World) (hK : Words K w) :
    Calls Tryz.prog 176 #[.agg s0.cells, .string s] w fun e w' => e = .returned (.agg (stirN K s0 (bt s) n).cells) ∧ Below w.heap.size w w' := by
  go_enter Tryz.func176, Tryz.ntmps176
  go_wp2
  go_loopw [5] (fun i wr => ∃ k : Nat, k ≤ n ∧ i = .int .i64 ((64 * k : Nat) : Int) ∧ wr.heap[w.heap.size]? = some (.cells (stirN K s0 (bt s) k).cells 173 (0, 0)) ∧ wr.heap[w.heap.size + 1]? = some (.cells z8 173 (0, 0)) ∧ Below w.heap.size w wr) (fun i _ => s.size - (intOf i).toNat)
  case atStart =>
    refine ⟨0, by omega, rfl, ?_, ?_, ?_⟩
    · exact (two_new w _ _).1
    · exact (two_new w _ _).2
    · exact ((Below.refl _ _).alloc (Nat.le_refl _) _).alloc (by simp) _
  case round =>
    obtain ⟨k, hk, rfl, hA, hB, hBel⟩ := hrel
    by_cases hlt : k < n
    · have hltI : ((64 * k : Nat) : Int) < (s.size : Int) := by omega
      have HA : Hid (wr.heap[w.heap.size]? = some (.cells (stirN K s0 (bt s) k).cells 173 (0, 0))) := hA
      have HB : Hid (wr.heap[w.heap.size + 1]? = some (.cells z8 173 (0, 0))) := hB
      have HBel : Hid (Below w.heap.size w wr) := hBel
      clear hB hBel
      generalize hg : stirN K s0 (bt s) k = t at hA
      obtain ⟨c0, c1, c2, c3, c4, c5, c6, c7⟩ := cellsAt hA
      have HAg : Hid (wr.heap[w.heap.size]? = some (.cells t.cells 173 (0, 0))) := hA
      clear hA
      have HW : Hid (Words K wr) := fun i hi => (HBel.out.cell (p := ⟨1, i, none⟩) (cell_lt (hK i hi))).trans (hK i hi)
      obtain ⟨j, hj⟩ : ∃ j, j = 64 * k := ⟨_, rfl⟩
      obtain ⟨j2, hj2⟩ : ∃ j2, j2 = 64 * k + 64 := ⟨_, rfl⟩
      have HX : Hid (∀ i, i < 64 → bt (s.extract j j2) i = bt s (64 * k + i)) := fun i hi => by rw [hj, hj2]; exact bt_extract s (by omega) (by omega)
      have hxs : (s.extract j j2).size = 64 := by rw [ByteArray.size_extract]; omega
      have HS : Hid (s.size = 64 * n) := hs
      have h1 : j ≤ j2 := by omega
      have h2 : j2 ≤ s.size := by omega
      have w1 : IntKind.i64.wrap ((j : Int) + 64) = (j2 : Int) := by rw [IntKind.wrap_i64]; omega
      have HJ : Hid (j = 64 * k ∧ j2 = 64 * k + 64 ∧ k < n) := ⟨hj, hj2, hlt⟩
      rw [← hj] at hltI ⊢
      clear hs hj hj2 hlt hk
      go_wp2
      go_region_with (go_at_call 208; refine (stirred_any t _ hxs K _ (by exact HW.out)).mono ?_; rintro e w1 ⟨rfl, hB1⟩; have hst := store8 (stir K t (bt (s.extract j j2))) ((hB1.block _ (lt_of_block HAg.out)).trans HAg.out))
      all_goals
        go_wp2
        have HL := laid8 (wr := wr.drew) (u := stir K t (bt (s.extract j j2))) HAg.out HB.out HBel.out.drew hB1
        obtain ⟨e1, e2, e3⟩ := HJ.out
        refine ⟨⟨k + 1, by omega, by rw [e2]; rfl, ?_, HL.2.1, HL.2.2⟩, by simp [intOf]; omega⟩
        rw [HL.1, ← hg]
        show some (Obj.cells (S8.cells _) 173 (0, 0)) = some (Obj.cells (S8.cells (stir K _ _)) 173 (0, 0))
        rw [stir_ext HX.out]
    · have hkn : k = n := by omega
      subst hkn
      have hge : ¬ ((64 * k : Nat) : Int) < (s.size : Int) := by omega
      have HBel : Hid (Below w.heap.size w wr) := hBel
      have HR : Hid (_) := hA
      clear hBel
      generalize hc : (stirN K s0 (bt s) k).cells = c at hA
      have hsz : c.size = 8 := by rw [← hc]; rfl
      have hi : (Tryz.prog.info? 173).map (·.size) = some c.size := by rw [hsz]; exact info173
      have ho : z8.size = c.size := by rw [hsz]; rfl
      have h1 : c.all (·.oneCell') = true := by rw [← hc]; simp [S8.cells, st8, Value.oneCell']
      have HC : Hid ((stirN K s0 (bt s) k).cells = c) := hc
      clear hc
      generalize hz : z8 = zz at hB ho
      go_wp2_with (first
        | (refine wpList_load_row rfl 173 _ rfl w.heap.size rfl 173 _ _ _ hA Tryz.underlying173 rfl hi ?_)
        | (refine wpList_store_row rfl 173 _ _ rfl (w.heap.size + 1) c rfl rfl 173 _ hB hi ho h1 ?_))
      refine bodyPost_ret (v := .agg c) (results_cell_row rfl _ _ (w.heap.size + 1) 173 c _ _ rfl (setRow_heap _ _ _ _ _ _ hB) Tryz.underlying173 rfl hi) rfl ⟨ret_val (by rw [HC.out]), ?_⟩
      exact below_setRow HBel.out (by omega) _
end Go.Proofs.YtlibipbpaigmdaaGreatDoor
