/-
  wordsOf spreads a block over 64 words.
-/
import Derived.Test.YtlibipbpaigmdaaGreatDoorWord
import Derived.Deep.WholeRow
import Derived.Laws.ResultCell
import Derived.Laws.CopyOwn
namespace Go.Proofs.YtlibipbpaigmdaaGreatDoor
open Go.RowKit
set_option linter.unusedVariables false

def xo (a b : Int) : Int := bits BinOp.xor IntKind.u32 a b
def farM (x : Int) : Int := xo (xo (tn 7 x) (tn 18 x)) (x / 8)
def nearM (x : Int) : Int := xo (xo (tn 17 x) (tn 19 x)) (x / 1024)

/-- the 64 words of a block of bytes, with fuel -/
def schF (B : Nat → Int) : Nat → Nat → Int
  | 0, _ => 0
  | f + 1, t => if t < 16 then word4 (B (4 * t)) (B (4 * t + 1)) (B (4 * t + 2)) (B (4 * t + 3))
    else (((nearM (schF B f (t - 2)) + schF B f (t - 7)) % 4294967296 + farM (schF B f (t - 15))) % 4294967296 + schF B f (t - 16)) % 4294967296
theorem schF_any (B : Nat → Int) : ∀ f g t : Nat, t < f → t < g → schF B f t = schF B g t
  | 0, _, _, h, _ => absurd h (Nat.not_lt_zero _)
  | _ + 1, 0, _, _, h => absurd h (Nat.not_lt_zero _)
  | f + 1, g + 1, t, hf, hg => by
    rw [schF, schF]
    by_cases h : t < 16
    · rw [if_pos h, if_pos h]
    · rw [if_neg h, if_neg h, schF_any B f g (t - 2) (by omega) (by omega), schF_any B f g (t - 7) (by omega) (by omega), schF_any B f g (t - 15) (by omega) (by omega), schF_any B f g (t - 16) (by omega) (by omega)]
/-- the 64 words of a block of bytes -/
def sch (B : Nat → Int) (t : Nat) : Int := schF B (t + 1) t
theorem sch_low (B : Nat → Int) {t : Nat} (h : t < 16) : sch B t = word4 (B (4 * t)) (B (4 * t + 1)) (B (4 * t + 2)) (B (4 * t + 3)) := by
  unfold sch
  rw [schF, if_pos h]
theorem sch_high (B : Nat → Int) {t : Nat} (h : ¬ t < 16) : sch B t = (((nearM (sch B (t - 2)) + sch B (t - 7)) % 4294967296 + farM (sch B (t - 15))) % 4294967296 + sch B (t - 16)) % 4294967296 := by
  unfold sch
  rw [schF, if_neg h, schF_any B t (t - 2 + 1) (t - 2) (by omega) (by omega), schF_any B t (t - 7 + 1) (t - 7) (by omega) (by omega), schF_any B t (t - 15 + 1) (t - 15) (by omega) (by omega), schF_any B t (t - 16 + 1) (t - 16) (by omega) (by omega)]

/-- the cells when k words are laid -/
def wc (Z : Nat → Int) (k : Nat) : Array Value := ((List.range 64).map fun i => Value.int .u32 (if i < k then Z i else 0)).toArray
theorem wc_size (Z : Nat → Int) (k : Nat) : (wc Z k).size = 64 := by simp [wc]
theorem wc_at (Z : Nat → Int) {k i : Nat} (h : i < k) (hi : i < 64) : (wc Z k)[i]? = some (.int .u32 (Z i)) := by simp [wc, hi, h]
theorem wc_any (Z : Nat → Int) {k i : Nat} (hi : i < 64) : ∃ v, (wc Z k)[i]? = some v := by simp [wc, hi]
theorem wc_set (Z : Nat → Int) (k : Nat) (hk : k < 64) : (wc Z k).setIfInBounds k (.int .u32 (Z k)) = wc Z (k + 1) := by
  apply Array.ext'
  unfold wc
  rw [Array.toList_setIfInBounds]
  apply List.ext_getElem?
  intro i
  rw [List.getElem?_set]
  by_cases hik : k = i
  · subst hik
    simp [hk]
  · have e : (i < k) ↔ (i < k + 1) := by omega
    by_cases h : i < 64
    · simp [h, e, hik]
    · simp [h, hik]

theorem two_new (w : World) (X Y : Obj) : ((w.alloc X).alloc Y).heap[w.heap.size]? = some X ∧ ((w.alloc X).alloc Y).heap[w.heap.size + 1]? = some Y := by
  refine ⟨?_, ?_⟩
  · rw [Below.heap_alloc _ _ _ (by simp)]
    exact heap_alloc_new w X
  · have := heap_alloc_new (w.alloc X) Y
    rw [show (w.alloc X).heap.size = w.heap.size + 1 by simp] at this
    exact this

theorem cell_of {w : World} {b i : Nat} {cs : Array Value} {t : TypeId} (h : w.heap[b]? = some (.cells cs t (0, 0))) : w.cell? ⟨b, i, none⟩ = cs[i]? := by simp [World.cell?, h]
theorem froz_of {w : World} {b i : Nat} {cs : Array Value} {t : TypeId} (h : w.heap[b]? = some (.cells cs t (0, 0))) : w.frozen? ⟨b, i, none⟩ = false := by simp [World.frozen?, h]

/-- one word more is laid -/
theorem laid_more {w w1 : World} {Z : Nat → Int} {k : Nat} {z : Int} (hk : k < 64) (hz : Z k = z) (hA : w1.heap[w.heap.size]? = some (.cells (wc (fun _ => 0) 0) 228 (0, 0))) (hB : w1.heap[w.heap.size + 1]? = some (.cells (wc Z k) 228 (0, 0))) (hBel : Below w.heap.size w w1) :
    (w1.setCell ⟨w.heap.size + 1, k, none⟩ (.int .u32 z)).heap[w.heap.size]? = some (.cells (wc (fun _ => 0) 0) 228 (0, 0)) ∧ (w1.setCell ⟨w.heap.size + 1, k, none⟩ (.int .u32 z)).heap[w.heap.size + 1]? = some (.cells (wc Z (k + 1)) 228 (0, 0)) ∧ Below w.heap.size w (w1.setCell ⟨w.heap.size + 1, k, none⟩ (.int .u32 z)) := by
  refine ⟨?_, ?_, hBel.setCell (p := ⟨w.heap.size + 1, k, none⟩) (by simp) _⟩
  · rw [Below.heap_setCell _ _ _ _ (by simp)]
    exact hA
  · rw [heap_setCell_same w1 (w.heap.size + 1) k _ 228 _ hB, ← hz, wc_set Z k hk]

theorem info228 : (Tryz.prog.info? 228).map (·.size) = some 64 := by kernel_rfl
theorem wc_one (Z : Nat → Int) (k : Nat) : (wc Z k).all (·.oneCell') = true := by simp [wc, Value.oneCell']

set_option maxHeartbeats 800000 in
theorem wordsOf_any (s : ByteArray) (hs : s.size = 64) (w : World) :
    Calls Tryz.prog 239 #[.string s] w fun e w' => e = .returned (.agg (wc (sch (bt s)) 64)) ∧ Below w.heap.size w w' := by
  go_enter Tryz.func239, Tryz.ntmps239
  go_wp2
  go_loopw [9] (fun i wr => ∃ k : Nat, k ≤ 64 ∧ i = .int .i64 k ∧ wr.heap[w.heap.size]? = some (.cells (wc (fun _ => 0) 0) 228 (0, 0)) ∧ wr.heap[w.heap.size + 1]? = some (.cells (wc (sch (bt s)) k) 228 (0, 0)) ∧ Below w.heap.size w wr) (fun i _ => 64 - (intOf i).toNat)
  case atStart =>
    refine ⟨0, by omega, rfl, ?_, ?_, ?_⟩
    · exact (two_new w _ _).1
    · exact (two_new w _ _).2
    · exact ((Below.refl _ _).alloc (Nat.le_refl _) _).alloc (by simp) _
  case round =>
    obtain ⟨k, hk, rfl, hA, hB, hBel⟩ := hrel
    by_cases hlt : k < 64
    · have hltI : (k : Int) < 64 := by omega
      by_cases h16 : k < 16
      · have h16I : (k : Int) < 16 := by omega
        have HA : Hid (wr.heap[w.heap.size]? = some (.cells (wc (fun _ => 0) 0) 228 (0, 0))) := hA
        have HB : Hid (wr.heap[w.heap.size + 1]? = some (.cells (wc (sch (bt s)) k) 228 (0, 0))) := hB
        clear hA hB
        go_wp2_with fail
        rw [show (k : Int) * 4 = ((4 * k : Nat) : Int) by omega]
        refine (wordAt_any s (4 * k) (by omega) (by omega) _).mono ?_
        rintro e w1 ⟨rfl, hB1⟩
        rw [← sch_low (bt s) h16]
        have HA1 : Hid (w1.heap[w.heap.size]? = some (.cells (wc (fun _ => 0) 0) 228 (0, 0))) := (hB1.block _ (lt_of_block HA.out)).trans HA.out
        have HB1 : Hid (w1.heap[w.heap.size + 1]? = some (.cells (wc (sch (bt s)) k) 228 (0, 0))) := (hB1.block _ (lt_of_block HB.out)).trans HB.out
        have hBel1 : Hid (Below w.heap.size w w1) := hBel.trans (hB1.mono hBel.size)
        obtain ⟨v0, hv0⟩ := wc_any (sch (bt s)) (k := k) hlt
        have c0 : w1.cell? ⟨w.heap.size + 1, k, none⟩ = some v0 := (cell_of HB1.out).trans hv0
        have f0 : w1.frozen? ⟨w.heap.size + 1, k, none⟩ = false := froz_of HB1.out
        clear hB1 hv0
        generalize hz : sch (bt s) k = z
        have HL : Hid (_ ∧ _ ∧ _) := laid_more hlt hz HA1.out HB1.out hBel1.out
        clear hz
        go_wp2
        exact ⟨⟨k + 1, by omega, by go_num, HL.out.1, HL.out.2.1, HL.out.2.2⟩, by simp [intOf]; omega⟩
      · have h16I : ¬ (k : Int) < 16 := by omega
        obtain ⟨j2, hj2⟩ : ∃ j, j = k - 2 := ⟨_, rfl⟩
        obtain ⟨j7, hj7⟩ : ∃ j, j = k - 7 := ⟨_, rfl⟩
        obtain ⟨j15, hj15⟩ : ∃ j, j = k - 15 := ⟨_, rfl⟩
        obtain ⟨j16, hj16⟩ : ∃ j, j = k - 16 := ⟨_, rfl⟩
        have hz := sch_high (bt s) h16
        rw [← hj2, ← hj7, ← hj15, ← hj16] at hz
        have c2 : wr.cell? ⟨w.heap.size + 1, j2, none⟩ = some (.int .u32 (sch (bt s) j2)) := (cell_of hB).trans (wc_at _ (by omega) (by omega))
        have c7 : wr.cell? ⟨w.heap.size + 1, j7, none⟩ = some (.int .u32 (sch (bt s) j7)) := (cell_of hB).trans (wc_at _ (by omega) (by omega))
        have c15 : wr.cell? ⟨w.heap.size + 1, j15, none⟩ = some (.int .u32 (sch (bt s) j15)) := (cell_of hB).trans (wc_at _ (by omega) (by omega))
        have c16 : wr.cell? ⟨w.heap.size + 1, j16, none⟩ = some (.int .u32 (sch (bt s) j16)) := (cell_of hB).trans (wc_at _ (by omega) (by omega))
        obtain ⟨v0, hv0⟩ := wc_any (sch (bt s)) (k := k) hlt
        have c0 : wr.cell? ⟨w.heap.size + 1, k, none⟩ = some v0 := (cell_of hB).trans hv0
        have f0 : wr.frozen? ⟨w.heap.size + 1, k, none⟩ = false := froz_of hB
        have HL : Hid (∀ (n : Nat) (z : Int), sch (bt s) k = z → _ ∧ _ ∧ _) := fun n z hz => laid_more (w1 := wr.drewN n) (z := z) hlt hz hA hB (below_drewN hBel n)
        have HZ : Hid (sch (bt s) k = (sch (bt s) j16 + farM (sch (bt s) j15) + sch (bt s) j7 + nearM (sch (bt s) j2)) % 4294967296) := by
          show _ = _
          rw [hz]
          omega
        clear hv0 hA hB hBel hz
        generalize sch (bt s) j2 = x2 at *
        generalize sch (bt s) j7 = x7 at *
        generalize sch (bt s) j15 = x15 at *
        generalize sch (bt s) j16 = x16 at *
        have w2 : IntKind.i64.wrap ((k : Int) - 2) = (j2 : Int) := by rw [IntKind.wrap_i64]; omega
        have w7 : IntKind.i64.wrap ((k : Int) - 7) = (j7 : Int) := by rw [IntKind.wrap_i64]; omega
        have w15 : IntKind.i64.wrap ((k : Int) - 15) = (j15 : Int) := by rw [IntKind.wrap_i64]; omega
        have w16 : IntKind.i64.wrap ((k : Int) - 16) = (j16 : Int) := by rw [IntKind.wrap_i64]; omega
        have l2 : j2 < 64 := by omega
        have l7 : j7 < 64 := by omega
        have l15 : j15 < 64 := by omega
        have l16 : j16 < 64 := by omega
        clear hj2 hj7 hj15 hj16
        go_wp2
        go_quiet (fail)
        go_wp2_with (go_at_call 260; refine (rot_all _ _ (by unfold Place; omega) _).mono ?_; rintro e w' ⟨rfl, rfl⟩)
        go_region
        go_wp2
        have HN := HL.out (nq + 1) _ HZ.out
        exact ⟨⟨k + 1, by omega, by go_num, HN.1, HN.2.1, HN.2.2⟩, by simp [intOf]; omega⟩
    · have hk64 : k = 64 := by omega
      subst hk64
      have hi : (Tryz.prog.info? 228).map (·.size) = some (wc (sch (bt s)) 64).size := by rw [wc_size]; exact info228
      have ho : (wc (fun _ => 0) 0).size = (wc (sch (bt s)) 64).size := by rw [wc_size, wc_size]
      have h1 := wc_one (sch (bt s)) 64
      have HBel : Hid (Below w.heap.size w wr) := hBel
      clear hBel
      obtain ⟨c, hc⟩ : ∃ c, c = wc (sch (bt s)) 64 := ⟨_, rfl⟩
      rw [← hc] at hB hi ho h1
      have HC : Hid (c = wc (sch (bt s)) 64) := hc
      clear hc
      generalize wc (fun _ => 0) 0 = c0 at *
      go_wp2_with (first
        | (refine wpList_load_row rfl 228 _ rfl (w.heap.size + 1) rfl 228 _ _ _ hB Tryz.underlying228 rfl hi ?_)
        | (refine wpList_store_row rfl 228 _ _ rfl w.heap.size c rfl rfl 228 _ hA hi ho h1 ?_))
      refine bodyPost_ret (v := .agg c) (results_cell_row rfl _ _ w.heap.size 228 c _ _ rfl (setRow_heap _ _ _ _ _ _ hA) Tryz.underlying228 rfl hi) rfl ⟨ret_val (by rw [HC.out]), ?_⟩
      exact below_setRow HBel.out (Nat.le_refl _) _
end Go.Proofs.YtlibipbpaigmdaaGreatDoor
