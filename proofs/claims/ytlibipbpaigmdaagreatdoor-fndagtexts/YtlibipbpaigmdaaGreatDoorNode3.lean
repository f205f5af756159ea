/-
  The laws' own functions over nodes: szNode, toNode, eqNode. No condition but that the ups read.
-/
import Derived.Test.YtlibipbpaigmdaaGreatDoorNode2
import Derived.Laws.CopyOwn
namespace Go.Proofs.YtlibipbpaigmdaaGreatDoor
open Go.RowKit
set_option linter.unusedVariables false

theorem info50 : (Tryz.prog.info? 50).map (·.size) = some 6 := by kernel_rfl
theorem frozN {w : World} {b i : Nat} {cs : Array Value} {t : TypeId} (h : w.heap[b]? = some (.cells cs t (0, 0))) : w.frozen? ⟨b, i, none⟩ = false := by simp [World.frozen?, h]

set_option maxHeartbeats 1000000 in
theorem szNode_any (a s k : Int) (key text : ByteArray) (u : Option Addr) (len cap : Nat) (S : Nat → ByteArray) (w : World) (h : IsStrs w u len cap S) (hS : ∀ i, i < len → (S i).size ≤ 9223372036854775807) (hkey : key.size ≤ 9223372036854775807) (htext : text.size ≤ 9223372036854775807) :
    Calls Tryz.prog 82 #[.agg #[.int .i64 a, .int .i64 s, .int .i64 k, .string key, .string text, .slice u len cap], .int .i64 1048576] w fun e w' => ∃ r : Int, e = .returned (.int .i64 r) ∧ (r < 0 ∨ (0 ≤ r ∧ key.size ≤ 1048576 ∧ text.size ≤ 1048576 ∧ len ≤ 1048576 ∧ ∀ i, i < len → (S i).size ≤ 1048576)) ∧ Below w.heap.size w w' := by
  have HB : Hid (∀ o, Below w.heap.size w (w.alloc o)) := fun o => (Below.refl _ _).alloc (Nat.le_refl _) _
  have HI : Hid (∀ o, IsStrs (w.alloc o) u len cap S) := fun o => h.below ((Below.refl _ _).alloc (Nat.le_refl _) _)
  have HSS : Hid (∀ i, i < len → (S i).size ≤ 9223372036854775807) := hS
  clear h hS
  by_cases h1 : (1048576 : Int) - (key.size : Int) < 0
  · go_enter Tryz.func82, Tryz.ntmps82
    go_wp2
    go_ret
    exact ⟨_, rfl, .inl (by decide), HB.out _⟩
  by_cases h2 : (1048576 : Int) - (key.size : Int) - (text.size : Int) < 0
  · go_enter Tryz.func82, Tryz.ntmps82
    go_wp2
    go_ret
    exact ⟨_, rfl, .inl (by decide), HB.out _⟩
  go_enter Tryz.func82, Tryz.ntmps82
  go_wp2_with fail
  refine (szStringS_any u len cap S _ (HI.out _) _ (by omega) (by omega) HSS.out).mono ?_
  rintro e w1 ⟨r, rfl, hr, rfl⟩
  have HR : Hid (_) := hr
  by_cases h3 : r < 0
  · clear hr
    go_wp2
    go_ret
    exact ⟨_, rfl, .inl (by decide), HB.out _⟩
  · clear hr
    go_wp2
    go_ret
    refine ⟨_, rfl, ?_, HB.out _⟩
    rcases HR.out with hr | ⟨hr0, hr1, hr2⟩
    · exact absurd hr (by omega)
    · exact .inr ⟨hr0, by omega, by omega, hr1, hr2⟩

set_option maxHeartbeats 1000000 in
theorem toStrs_any (a : Option Addr) (len cap : Nat) (S : Nat → ByteArray) (w : World) (h : IsStrs w a len cap S) (hl : len ≤ 1048576) :
    Calls Tryz.prog 29 #[.slice a len cap] w fun e w' => ∃ g, e = .returned (.slice (some ⟨g, 0, none⟩) len len) ∧ IsStrs w' (some ⟨g, 0, none⟩) len len S ∧ Below w.heap.size w w' ∧ w.heap.size ≤ g := by
  obtain ⟨hlc, hcm, hc⟩ := h
  obtain ⟨i0, hi, hz0, hz1, hz2⟩ := info_parts info9
  have hb2 : i0.bytes * len ≤ 281474976710656 := by rw [hz2]; omega
  have hb3 : len ≤ maxLen := by unfold maxLen; omega
  go_enter Tryz.func29, Tryz.ntmps29
  go_wp2_with (at_make; refine wpList_make_full _ rfl _ _ 25 rfl w.heap.size 9 i0 (.string ⟨#[]⟩) 1 Tryz.underlying25 hi hz0 hz1 .i64 .i64 _ _ len rfl rfl rfl rfl hb2 hb3 (Nat.le_refl _) ?_; intro w1 hown hgrow)
  have hB1 : Below w.heap.size w w1 := (Below.refl _ w).grown hgrow (Nat.le_refl _) (fun k hk => by cases hk)
  clear hgrow
  go_loopw [4] (fun i wr => ∃ (k : Nat) (xs : List Value), k ≤ len ∧ i = .int .i64 k ∧ wr.ownsRow w.heap.size 9 1 (.slice (some ⟨w.heap.size, 0, none⟩) len len) len xs ∧ Hid (∀ j, j < k → xs[j]? = some (.string (S j))) ∧ Below w.heap.size w wr)
    (fun i _ => len - (intOf i).toNat)
  case atStart => exact ⟨0, _, Nat.zero_le _, rfl, hown, fun j hj => absurd hj (Nat.not_lt_zero _), hB1⟩
  case round =>
    obtain ⟨k, xs, hk, rfl, how, HA, hB⟩ := hrel
    by_cases hlt : k < len
    · obtain ⟨b, off, rfl, hbs, hcell⟩ := hc (by omega)
      have d1 := (hB.cell (p := ⟨b, off + k, none⟩) hbs).trans (hcell k hlt)
      clear hcell hc
      have hxl : xs.length = len * 1 := how.1
      have f1 := how.frozenAt k
      obtain ⟨v1, e1⟩ := own_some how k (by omega)
      have HO := (show Hid _ from how)
      clear how hown
      go_wp2
      go_roundw
      case rel =>
        refine ⟨k + 1, xs.set k (.string (S k)), by omega, by go_num, (World.ownsRow.stored HO.out _ _).1, ?_, hB.setCell (Nat.le_refl _) _⟩
        intro j hj
        rcases Nat.lt_succ_iff_lt_or_eq.1 hj with h1 | rfl
        · rw [List.getElem?_set_ne (by omega)]
          exact HA.out j h1
        · rw [List.getElem?_set_self (by omega)]
      case measure => simp [intOf]; omega
    · have hke : k = len := by omega
      subst hke
      have hfin : IsStrs wr (some ⟨w.heap.size, 0, none⟩) k k S := by
        refine ⟨Nat.le_refl _, by omega, fun hp => ?_⟩
        refine ⟨w.heap.size, 0, rfl, own_live how, fun j hj => ?_⟩
        rw [Nat.zero_add, how.cellAt _ (by omega)]
        exact HA.out j hj
      clear how hown hB1 HA
      go_wp2
      go_ret
      exact ⟨_, rfl, hfin, hB, Nat.le_refl _⟩

set_option maxHeartbeats 1000000 in
theorem toNode_any (a s k : Int) (key text : ByteArray) (u : Option Addr) (len cap : Nat) (S : Nat → ByteArray) (w : World) (h : IsStrs w u len cap S) (hl : len ≤ 1048576) :
    Calls Tryz.prog 87 #[.agg #[.int .i64 a, .int .i64 s, .int .i64 k, .string key, .string text, .slice u len cap]] w fun e w' => ∃ g, e = .returned (.agg #[.int .i64 a, .int .i64 s, .int .i64 k, .string key, .string text, .slice (some ⟨g, 0, none⟩) len len]) ∧ IsStrs w' (some ⟨g, 0, none⟩) len len S ∧ Below w.heap.size w w' := by
  go_enter Tryz.func87, Tryz.ntmps87
  go_wp2_with fail
  obtain ⟨W3, hW3⟩ : ∃ W3, W3 = ((w.alloc (.cells #[.int .i64 a, .int .i64 s, .int .i64 k, .string key, .string text, .slice u len cap] 74)).alloc (.cells #[.int .i64 0, .int .i64 0, .int .i64 0, .string ⟨#[]⟩, .string ⟨#[]⟩, .slice none 0 0] 50)).alloc (.cells #[.int .i64 a, .int .i64 s, .int .i64 k, .string key, .string text, .slice none 0 0] 50) := ⟨_, rfl⟩
  rw [← hW3]
  have hB3 : Below w.heap.size w W3 := by rw [hW3]; exact (((Below.refl _ _).alloc (Nat.le_refl _) _).alloc (by simp) _).alloc (by simp; omega) _
  have g2 : W3.heap[w.heap.size + 1]? = some (.cells #[.int .i64 0, .int .i64 0, .int .i64 0, .string ⟨#[]⟩, .string ⟨#[]⟩, .slice none 0 0] 50) := by
    rw [hW3, Below.heap_alloc _ _ _ (by simp)]
    have := heap_alloc_new (w.alloc (.cells #[.int .i64 a, .int .i64 s, .int .i64 k, .string key, .string text, .slice u len cap] 74)) (.cells #[.int .i64 0, .int .i64 0, .int .i64 0, .string ⟨#[]⟩, .string ⟨#[]⟩, .slice none 0 0] 50)
    simpa using this
  have g3 : W3.heap[w.heap.size + 2]? = some (.cells #[.int .i64 a, .int .i64 s, .int .i64 k, .string key, .string text, .slice none 0 0] 50) := by
    rw [hW3]
    have := heap_alloc_new ((w.alloc (.cells #[.int .i64 a, .int .i64 s, .int .i64 k, .string key, .string text, .slice u len cap] 74)).alloc (.cells #[.int .i64 0, .int .i64 0, .int .i64 0, .string ⟨#[]⟩, .string ⟨#[]⟩, .slice none 0 0] 50)) (.cells #[.int .i64 a, .int .i64 s, .int .i64 k, .string key, .string text, .slice none 0 0] 50)
    simpa using this
  clear hW3
  refine (toStrs_any u len cap S _ (h.below hB3) hl).mono ?_
  rintro e w1 ⟨g, rfl, hI, hB, hge⟩
  have HG2 : Hid (w.heap.size + 2 < g) := Nat.lt_of_lt_of_le (lt_of_block g3) hge
  clear hge
  have h2 : w1.heap[w.heap.size + 1]? = some (.cells #[.int .i64 0, .int .i64 0, .int .i64 0, .string ⟨#[]⟩, .string ⟨#[]⟩, .slice none 0 0] 50) := (hB.block _ (lt_of_block g2)).trans g2
  have h3 : w1.heap[w.heap.size + 2]? = some (.cells #[.int .i64 a, .int .i64 s, .int .i64 k, .string key, .string text, .slice none 0 0] 50) := (hB.block _ (lt_of_block g3)).trans g3
  have c0 : w1.cell? ⟨w.heap.size + 2, 0, none⟩ = some (.int .i64 a) := cellN h3
  have cf0 : w1.frozen? ⟨w.heap.size + 2, 0, none⟩ = false := frozN h3
  have c1 : w1.cell? ⟨w.heap.size + 2, 1, none⟩ = some (.int .i64 s) := cellN h3
  have cf1 : w1.frozen? ⟨w.heap.size + 2, 1, none⟩ = false := frozN h3
  have c2 : w1.cell? ⟨w.heap.size + 2, 2, none⟩ = some (.int .i64 k) := cellN h3
  have cf2 : w1.frozen? ⟨w.heap.size + 2, 2, none⟩ = false := frozN h3
  have c3 : w1.cell? ⟨w.heap.size + 2, 3, none⟩ = some (.string key) := cellN h3
  have cf3 : w1.frozen? ⟨w.heap.size + 2, 3, none⟩ = false := frozN h3
  have c4 : w1.cell? ⟨w.heap.size + 2, 4, none⟩ = some (.string text) := cellN h3
  have cf4 : w1.frozen? ⟨w.heap.size + 2, 4, none⟩ = false := frozN h3
  have c5 : w1.cell? ⟨w.heap.size + 2, 5, none⟩ = some (.slice none 0 0) := cellN h3
  have cf5 : w1.frozen? ⟨w.heap.size + 2, 5, none⟩ = false := frozN h3
  have HB1 : Hid (Below w.heap.size w w1) := hB3.trans (hB.mono hB3.size)
  have HI : Hid (_) := hI
  have H2 : Hid ((w1.setCell ⟨w.heap.size + 1 + 1, 5, none⟩ (.slice (some ⟨g, 0, none⟩) len len)).heap[w.heap.size + 1]? = some (.cells #[.int .i64 0, .int .i64 0, .int .i64 0, .string ⟨#[]⟩, .string ⟨#[]⟩, .slice none 0 0] 50)) := by
    show _ = _
    rw [Below.heap_setCell _ _ _ _ (by simp)]
    exact h2
  obtain ⟨q, hq⟩ : ∃ q, q = #[Value.int .i64 a, .int .i64 s, .int .i64 k, .string key, .string text, .slice (some ⟨g, 0, none⟩) len len] := ⟨_, rfl⟩
  have hi6 : (Tryz.prog.info? 50).map (·.size) = some q.size := by rw [hq]; exact info50
  have ho6 : (#[Value.int .i64 0, .int .i64 0, .int .i64 0, .string ⟨#[]⟩, .string ⟨#[]⟩, .slice none 0 0] : Array Value).size = q.size := by rw [hq]; rfl
  have h16 : q.all (·.oneCell') = true := by rw [hq]; simp [Value.oneCell']
  have HQ : Hid (q = #[Value.int .i64 a, .int .i64 s, .int .i64 k, .string key, .string text, .slice (some ⟨g, 0, none⟩) len len]) := hq
  clear h2 h3 g2 g3 hB hB3 hI h
  go_wp2_with (refine wpList_store_row rfl 50 _ _ rfl (w.heap.size + 1) q rfl (congrArg Value.agg hq.symm) 50 _ H2.out hi6 ho6 h16 ?_)
  refine bodyPost_ret (v := .agg q) (results_cell_row rfl _ _ (w.heap.size + 1) 50 _ _ _ rfl (setRow_heap _ _ _ _ _ _ H2.out) Tryz.underlying50 rfl hi6) rfl ⟨g, ret_val (by rw [HQ.out]), ?_, ?_⟩
  · obtain ⟨i1, i2, i3⟩ := HI.out
    refine ⟨i1, i2, fun hp => ?_⟩
    obtain ⟨b, off, e1, e2, e3⟩ := i3 hp
    simp only [Option.some.injEq, Addr.mk.injEq, and_true] at e1
    obtain ⟨rfl, rfl⟩ := e1
    have hg2 := HG2.out
    refine ⟨g, 0, rfl, by simpa using e2, fun i hi => ?_⟩
    rw [cell_setRow_other _ _ _ _ (by simp <;> omega), World.cell?_setCell_other _ _ _ _ (by simp <;> omega)]
    exact e3 i hi
  · exact below_setRow (HB1.out.setCell (p := ⟨w.heap.size + 1 + 1, 5, none⟩) (by show w.heap.size ≤ w.heap.size + 1 + 1; omega) _) (by omega) _

set_option maxHeartbeats 1000000 in
theorem eqNode_same (a s k : Int) (key text : ByteArray) (u u' : Option Addr) (len cap cap' : Nat) (S : Nat → ByteArray) (w : World) (h : IsStrs w u len cap S) (h' : IsStrs w u' len cap' S) :
    Calls Tryz.prog 93 #[.agg #[.int .i64 a, .int .i64 s, .int .i64 k, .string key, .string text, .slice u len cap], .agg #[.int .i64 a, .int .i64 s, .int .i64 k, .string key, .string text, .slice u' len cap']] w fun e w' => e = .returned (.bool true) ∧ Below w.heap.size w w' := by
  have HB : Hid (∀ o o', Below w.heap.size w ((w.alloc o).alloc o')) := fun o o' => ((Below.refl _ _).alloc (Nat.le_refl _) _).alloc (by simp) _
  have HI : Hid (∀ o o', IsStrs ((w.alloc o).alloc o') u len cap S) := fun o o' => h.below (HB.out o o')
  have HI' : Hid (∀ o o', IsStrs ((w.alloc o).alloc o') u' len cap' S) := fun o o' => h'.below (HB.out o o')
  have e1 : (a != a) = false := by simp
  have e2 : (s != s) = false := by simp
  have e3 : (k != k) = false := by simp
  have e4 : (key.toList != key.toList) = false := by simp
  have e5 : (text.toList != text.toList) = false := by simp
  clear h h'
  go_enter Tryz.func93, Tryz.ntmps93
  go_wp2_with fail
  refine (eqStringS_same _ _ _ _ _ S _ (HI.out _ _) (HI'.out _ _)).mono ?_
  rintro e w1 ⟨rfl, hB1⟩
  go_wp2
  go_ret
  exact ⟨rfl, (HB.out _ _).trans (hB1.mono (HB.out _ _).size)⟩

end Go.Proofs.YtlibipbpaigmdaaGreatDoor
