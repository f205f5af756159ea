/-
  The law of BoxOk returns true. Conditions: the text's length does not wrap; the variable errNoBox holds a pointer.
-/
import Derived.Test.YtdbkbgdnfphhfaaDoorBxB
namespace Go.Proofs.YtdbkbgdnfphhfaaDoor
open Go.RowKit
set_option linter.unusedVariables false

theorem lawBox_walk (key : Int) (s : ByteArray) (b : Addr) (w : World) (h1 : -9223372036854775808 ≤ key) (h2 : key ≤ 9223372036854775807) (hs : s.size ≤ 9223372036854775807) (hG : w.cell? ⟨0, 0, none⟩ = some (.iface 127 (.pointer (some b)))) (h0 : 0 < w.heap.size) :
    Calls Tryd.prog 3 #[.agg #[.int .i64 key, .string s]] w fun e w' => e = .returned (.bool true) ∧ Below w.heap.size w w' := by
  have HG := (show Hid _ from hG)
  have H0 := (show Hid _ from h0)
  have HK : Hid (-9223372036854775808 ≤ key ∧ key ≤ 9223372036854775807) := ⟨h1, h2⟩
  have HS := (show Hid _ from hs)
  have HB0 : Hid (Below w.heap.size w (w.alloc (.cells #[.int .i64 key, .string s] 23))) := (Below.refl _ _).alloc (Nat.le_refl _) _
  have HX : Hid ((w.alloc (.cells #[.int .i64 key, .string s] 23)).heap[w.heap.size]? = some (.cells #[.int .i64 key, .string s] 23 (0, 0))) := heap_alloc_new w _
  clear hG h0 h1 h2 hs
  go_enter Tryd.func3, Tryd.ntmps3
  go_wp2_with fail
  refine (szBox_any key s HS.out _).mono ?_
  rintro e w1 ⟨r, rfl, hr, hB1⟩
  have b1 := HB0.out.trans (hB1.mono HB0.out.size)
  have HX1 : Hid (w1.heap[w.heap.size]? = some (.cells #[.int .i64 key, .string s] 23 (0, 0))) := (hB1.block _ (lt_of_block HX.out)).trans HX.out
  clear hB1
  rcases hr.out with hr | ⟨hr, hz⟩
  · go_wp2
    go_ret
    exact ⟨rfl, b1⟩
  have hrI : ¬ r < 0 := by omega
  have HZ := (show Hid _ from hz)
  clear hr hz
  have c10 : w1.cell? ⟨w.heap.size, 0, none⟩ = some (.int .i64 key) := cell_of_row w1 _ 0 _ _ _ HX1.out
  have c11 : w1.cell? ⟨w.heap.size, 1, none⟩ = some (.string s) := cell_of_row w1 _ 1 _ _ _ HX1.out
  go_wp2_with fail
  refine (toBox_any key s _).mono ?_
  rintro e w2 ⟨rfl, hB2⟩
  have b2 := b1.trans (hB2.mono b1.size)
  have HX2 : Hid (w2.heap[w.heap.size]? = some (.cells #[.int .i64 key, .string s] 23 (0, 0))) := (hB2.block _ (lt_of_block HX1.out)).trans HX1.out
  clear hB2 c10 c11
  go_wp2_with fail
  refine (specBoxOk_any key s HK.out.1 HK.out.2 _).mono ?_
  rintro e w3 ⟨rfl, hB3⟩
  have b3 := b2.trans (hB3.mono b2.size)
  have HX3 : Hid (w3.heap[w.heap.size]? = some (.cells #[.int .i64 key, .string s] 23 (0, 0))) := (hB3.block _ (lt_of_block HX2.out)).trans HX2.out
  clear hB3
  have c30 : w3.cell? ⟨w.heap.size, 0, none⟩ = some (.int .i64 key) := cell_of_row w3 _ 0 _ _ _ HX3.out
  have c31 : w3.cell? ⟨w.heap.size, 1, none⟩ = some (.string s) := cell_of_row w3 _ 1 _ _ _ HX3.out
  go_wp2_with fail
  refine (toBox_any key s _).mono ?_
  rintro e w4 ⟨rfl, hB4⟩
  have b4 := b3.trans (hB4.mono b3.size)
  clear hB4 c30 c31
  have HI : Hid (Calls Tryd.prog 8 #[.agg #[.int .i64 key, .string s]] w4 fun e w' => e = .returned (.bool (okB key s)) ∧ Below w4.heap.size w4 w') := implBoxOk_any key s b w4 HZ.out ((b4.cell (p := ⟨0, 0, none⟩) H0.out).trans HG.out) (Nat.lt_of_lt_of_le H0.out b4.size)
  obtain ⟨c, hc⟩ : ∃ c, c = okB key s := ⟨_, rfl⟩
  rw [← hc] at HI ⊢
  clear hc
  go_wp2_with fail
  refine HI.out.mono ?_
  rintro e w5 ⟨rfl, hB5⟩
  have hcc : (c != c) = false := by simp
  go_wp2
  go_ret
  exact ⟨rfl, b4.trans (hB5.mono b4.size)⟩
end Go.Proofs.YtdbkbgdnfphhfaaDoor
