/-
  Copies of dags, and holding two of them against each other. No condition but that the slices read.
-/
import Derived.Test.YtlibipbpaigmdaaGreatDoorDag
import Derived.Deep.RegionHeld3
namespace Go.Proofs.YtlibipbpaigmdaaGreatDoor
open Go.RowKit
set_option linter.unusedVariables false

set_option maxHeartbeats 1000000 in
theorem toNode2 (a s k : Int) (key text : ByteArray) (u : Option Addr) (len cap : Nat) (S : Nat → ByteArray) (w : World) (h : IsStrs w u len cap S) (hl : len ≤ 1048576) :
    Calls Tryz.prog 87 #[.agg #[.int .i64 a, .int .i64 s, .int .i64 k, .string key, .string text, .slice u len cap]] w fun e w' => ∃ g, e = .returned (.agg #[.int .i64 a, .int .i64 s, .int .i64 k, .string key, .string text, .slice (some ⟨g, 0, none⟩) len len]) ∧ IsStrs w' (some ⟨g, 0, none⟩) len len S ∧ Below w.heap.size w w' ∧ w.heap.size ≤ g := by
  go_enter Tryz.func87, Tryz.ntmps87
  go_wp2_with fail
  obtain ⟨W3, hW3⟩ : ∃ W3, W3 = ((w.alloc (.cells #[.int .i64 a, .int .i64 s, .int .i64 k, .string key, .string text, .slice u len cap] 74)).alloc (.cells #[.int .i64 0, .int .i64 0, .int .i64 0, .string ⟨#[]⟩, .string ⟨#[]⟩, .slice none 0 0] 50)).alloc (.cells #[.int .i64 a, .int .i64 s, .int .i64 k, .string key, .string text, .slice none 0 0] 50) := ⟨_, rfl⟩
  rw [← hW3]
  have hB3 : Below w.heap.size w W3 := by rw [hW3]; exact (((Below.refl _ _).alloc (Nat.le_refl _) _).alloc (by simp) _).alloc (by simp; omega) _
  have g2 : W3.heap[w.heap.size + 1]? = some (.cells #[.int .i64 0, .int .i64 0, .int .i64 0, .string ⟨#[]⟩, .string ⟨#[]⟩, .slice none 0 0] 50) := by
    rw [hW3, Below.heap_alloc _ _ _ (by simp)]
    have := heap_alloc_new (w.alloc (.cells #[.int .i64 a, .int .i64 s, .int .i64 k, .string key, .string text, .slice u len cap] 74)) (.cells #[.int .i64 0, .int .i64 0, .int .i64 0, .string ⟨#[]⟩, .string ⟨#[]⟩, .slice none 0 0] 50)
    simpa using this
  have g3 : W3.heap[w.heap.size + 2]? = some (.cells #[.int .i64 a, .int .i64 s, .int .i64 k, .string key, .string text, .slice none 0 0] 50) := by
    rw [hW3]
    have := heap_alloc_new ((w.alloc (.cells #[.int .i64 a, .int .i64 s, .int .i64 k, .string key, .string text, .slice u len cap] 74)).alloc (.cells #[.int .i64 0, .int .i64 0, .int .i64 0, .string ⟨#[]⟩, .string ⟨#[]⟩, .slice none 0 0] 50)) (.cells #[.int .i64 a, .int .i64 s, .int .i64 k, .string key, .string text, .slice none 0 0] 50)
    simpa using this
  clear hW3
  refine (toStrs_any u len cap S _ (h.below hB3) hl).mono ?_
  rintro e w1 ⟨g, rfl, hI, hB, hge⟩
  have HG2 : Hid (w.heap.size + 2 < g) := Nat.lt_of_lt_of_le (lt_of_block g3) hge
  clear hge
  have h2 : w1.heap[w.heap.size + 1]? = some (.cells #[.int .i64 0, .int .i64 0, .int .i64 0, .string ⟨#[]⟩, .string ⟨#[]⟩, .slice none 0 0] 50) := (hB.block _ (lt_of_block g2)).trans g2
  have h3 : w1.heap[w.heap.size + 2]? = some (.cells #[.int .i64 a, .int .i64 s, .int .i64 k, .string key, .string text, .slice none 0 0] 50) := (hB.block _ (lt_of_block g3)).trans g3
  have c0 : w1.cell? ⟨w.heap.size + 2, 0, none⟩ = some (.int .i64 a) := cellN h3
  have cf0 : w1.frozen? ⟨w.heap.size + 2, 0, none⟩ = false := frozN h3
  have c1 : w1.cell? ⟨w.heap.size + 2, 1, none⟩ = some (.int .i64 s) := cellN h3
  have cf1 : w1.frozen? ⟨w.heap.size + 2, 1, none⟩ = false := frozN h3
  have c2 : w1.cell? ⟨w.heap.size + 2, 2, none⟩ = some (.int .i64 k) := cellN h3
  have cf2 : w1.frozen? ⟨w.heap.size + 2, 2, none⟩ = false := frozN h3
  have c3 : w1.cell? ⟨w.heap.size + 2, 3, none⟩ = some (.string key) := cellN h3
  have cf3 : w1.frozen? ⟨w.heap.size + 2, 3, none⟩ = false := frozN h3
  have c4 : w1.cell? ⟨w.heap.size + 2, 4, none⟩ = some (.string text) := cellN h3
  have cf4 : w1.frozen? ⟨w.heap.size + 2, 4, none⟩ = false := frozN h3
  have c5 : w1.cell? ⟨w.heap.size + 2, 5, none⟩ = some (.slice none 0 0) := cellN h3
  have cf5 : w1.frozen? ⟨w.heap.size + 2, 5, none⟩ = false := frozN h3
  have HB1 : Hid (Below w.heap.size w w1) := hB3.trans (hB.mono hB3.size)
  have HI : Hid (_) := hI
  have H2 : Hid ((w1.setCell ⟨w.heap.size + 1 + 1, 5, none⟩ (.slice (some ⟨g, 0, none⟩) len len)).heap[w.heap.size + 1]? = some (.cells #[.int .i64 0, .int .i64 0, .int .i64 0, .string ⟨#[]⟩, .string ⟨#[]⟩, .slice none 0 0] 50)) := by
    show _ = _
    rw [Below.heap_setCell _ _ _ _ (by simp)]
    exact h2
  obtain ⟨q, hq⟩ : ∃ q, q = #[Value.int .i64 a, .int .i64 s, .int .i64 k, .string key, .string text, .slice (some ⟨g, 0, none⟩) len len] := ⟨_, rfl⟩
  have hi6 : (Tryz.prog.info? 50).map (·.size) = some q.size := by rw [hq]; exact info50
  have ho6 : (#[Value.int .i64 0, .int .i64 0, .int .i64 0, .string ⟨#[]⟩, .string ⟨#[]⟩, .slice none 0 0] : Array Value).size = q.size := by rw [hq]; rfl
  have h16 : q.all (·.oneCell') = true := by rw [hq]; simp [Value.oneCell']
  have HQ : Hid (q = #[Value.int .i64 a, .int .i64 s, .int .i64 k, .string key, .string text, .slice (some ⟨g, 0, none⟩) len len]) := hq
  clear h2 h3 g2 g3 hB hB3 hI h
  go_wp2_with (refine wpList_store_row rfl 50 _ _ rfl (w.heap.size + 1) q rfl (congrArg Value.agg hq.symm) 50 _ H2.out hi6 ho6 h16 ?_)
  refine bodyPost_ret (v := .agg q) (results_cell_row rfl _ _ (w.heap.size + 1) 50 _ _ _ rfl (setRow_heap _ _ _ _ _ _ H2.out) Tryz.underlying50 rfl hi6) rfl ⟨g, ret_val (by rw [HQ.out]), ?_, ?_, Nat.le_of_lt (Nat.lt_trans (by omega) HG2.out)⟩
  · obtain ⟨i1, i2, i3⟩ := HI.out
    refine ⟨i1, i2, fun hp => ?_⟩
    obtain ⟨b, off, e1, e2, e3⟩ := i3 hp
    simp only [Option.some.injEq, Addr.mk.injEq, and_true] at e1
    obtain ⟨rfl, rfl⟩ := e1
    have hg2 := HG2.out
    refine ⟨g, 0, rfl, by simpa using e2, fun i hi => ?_⟩
    rw [cell_setRow_other _ _ _ _ (by simp <;> omega), World.cell?_setCell_other _ _ _ _ (by simp <;> omega)]
    exact e3 i hi
  · exact below_setRow (HB1.out.setCell (p := ⟨w.heap.size + 1 + 1, 5, none⟩) (by show w.heap.size ≤ w.heap.size + 1 + 1; omega) _) (by omega) _


theorem infoN50 : (Tryz.prog.info? 50).map (fun i => (i.zero, i.size, i.bytes)) = some (some (.agg #[.int .i64 0, .int .i64 0, .int .i64 0, .string ⟨#[]⟩, .string ⟨#[]⟩, .slice none 0 0]), 6, 80) := by kernel_rfl

theorem IsStrs.setCell {w : World} {g n cap B o : Nat} {S : Nat → ByteArray} {v : Value} (h : IsStrs w (some ⟨g, 0, none⟩) n cap S) (hne : g ≠ B) : IsStrs (w.setCell ⟨B, o, none⟩ v) (some ⟨g, 0, none⟩) n cap S := by
  obtain ⟨h1, h2, h3⟩ := h
  refine ⟨h1, h2, fun hp => ?_⟩
  obtain ⟨b, off, e1, e2, e3⟩ := h3 hp
  simp only [Option.some.injEq, Addr.mk.injEq, and_true] at e1
  obtain ⟨rfl, rfl⟩ := e1
  refine ⟨g, 0, rfl, by simpa [World.setCell] using e2, fun i hi => ?_⟩
  rw [World.cell?_setCell_other _ _ _ _ (by simp <;> omega)]
  exact e3 i hi

theorem get_set6 (xs : List Value) (k j t : Nat) (v0 v1 v2 v3 v4 v5 : Value) (hj : j < k) (ht : t < 6) :
    ((((((xs.set (k * 6) v0).set (k * 6 + 1) v1).set (k * 6 + 2) v2).set (k * 6 + 3) v3).set (k * 6 + 4) v4).set (k * 6 + 5) v5)[j * 6 + t]? = xs[j * 6 + t]? := by
  rw [List.getElem?_set_ne (by omega), List.getElem?_set_ne (by omega), List.getElem?_set_ne (by omega), List.getElem?_set_ne (by omega), List.getElem?_set_ne (by omega), List.getElem?_set_ne (by omega)]

/-- the copy of node d whose ups lie at block g -/
def Nd.at (d : Nd) (g : Nat) : Nd := { d with u := some ⟨g, 0, none⟩, cap := d.n }
theorem Nd.at_like (d : Nd) (g : Nat) : d.Like (d.at g) := ⟨rfl, rfl, rfl, rfl, rfl, rfl, rfl⟩

/-- the six cells of copy j are laid in xs -/
def Laid6 (xs : List Value) (D : Nat → Nd) (G : Nat → Nat) (j : Nat) : Prop :=
  xs[j * 6 + 0]? = some (.int .i64 (D j).a) ∧ xs[j * 6 + 1]? = some (.int .i64 (D j).s) ∧ xs[j * 6 + 2]? = some (.int .i64 (D j).k) ∧ xs[j * 6 + 3]? = some (.string (D j).key) ∧ xs[j * 6 + 4]? = some (.string (D j).text) ∧ xs[j * 6 + 5]? = some (.slice (some ⟨G j, 0, none⟩) (D j).n (D j).n)

set_option maxRecDepth 10000 in
set_option maxHeartbeats 2000000 in
theorem toNodeS_any (a : Option Addr) (len cap : Nat) (D : Nat → Nd) (w : World) (h : IsNds w a len cap D) (hl : len ≤ 1048576) (hn : ∀ i, i < len → (D i).n ≤ 1048576) :
    Calls Tryz.prog 17 #[.slice a len cap] w fun e w' => ∃ (g : Nat) (G : Nat → Nat), e = .returned (.slice (some ⟨g, 0, none⟩) len len) ∧ IsNds w' (some ⟨g, 0, none⟩) len len (fun i => (D i).at (G i)) ∧ Below w.heap.size w w' := by
  obtain ⟨hlc, hcm, hc⟩ := h
  obtain ⟨i0, hi, hz0, hz1, hz2⟩ := info_parts infoN50
  have hb2 : i0.bytes * len ≤ 281474976710656 := by rw [hz2]; omega
  have hb3 : len ≤ maxLen := by unfold maxLen; omega
  go_enter Tryz.func17, Tryz.ntmps17
  go_wp2_with (at_make; refine wpList_make_full _ rfl _ _ 28 rfl w.heap.size 50 i0 (.agg #[.int .i64 0, .int .i64 0, .int .i64 0, .string ⟨#[]⟩, .string ⟨#[]⟩, .slice none 0 0]) 6 Tryz.underlying28 hi hz0 hz1 .i64 .i64 _ _ len rfl rfl rfl rfl hb2 hb3 (Nat.le_refl _) ?_; intro w1 hown hgrow)
  have hB1 : Below w.heap.size w w1 := (Below.refl _ w).grown hgrow (Nat.le_refl _) (fun k hk => by cases hk)
  clear hgrow
  go_loopw [4] (fun i wr => ∃ (k : Nat) (xs : List Value) (G : Nat → Nat), k ≤ len ∧ i = .int .i64 k ∧ wr.ownsRow w.heap.size 50 6 (.slice (some ⟨w.heap.size, 0, none⟩) len len) len xs ∧ Hid (∀ j, j < k → Laid6 xs D G j ∧ w.heap.size < G j ∧ IsStrs wr (some ⟨G j, 0, none⟩) (D j).n (D j).n (D j).S) ∧ Below w.heap.size w wr)
    (fun i _ => len - (intOf i).toNat)
  case atStart => exact ⟨0, _, fun _ => 0, Nat.zero_le _, rfl, hown, fun j hj => absurd hj (Nat.not_lt_zero _), hB1⟩
  case round =>
    obtain ⟨k, xs, G, hk, rfl, how, HA, hB⟩ := hrel
    by_cases hlt : k < len
    · obtain ⟨b, off, rfl, hbs, hcell⟩ := hc (by omega)
      have hnk := hn k hlt
      obtain ⟨c0, c1, c2, c3, c4, c5, ci⟩ : NdAt wr b (off + k * 6) (D k) := by
        have := hcell k hlt
        refine ⟨(hB.cell (p := ⟨b, _, none⟩) hbs).trans this.c0, (hB.cell (p := ⟨b, _, none⟩) hbs).trans this.c1, (hB.cell (p := ⟨b, _, none⟩) hbs).trans this.c2, (hB.cell (p := ⟨b, _, none⟩) hbs).trans this.c3, (hB.cell (p := ⟨b, _, none⟩) hbs).trans this.c4, (hB.cell (p := ⟨b, _, none⟩) hbs).trans this.c5, this.i.below hB⟩
      have hltI : (k : Int) < (len : Int) := by omega
      have hws : w.heap.size < wr.heap.size := own_live how
      have HI : Hid (IsStrs wr (D k).u (D k).n (D k).cap (D k).S) := ci
      have HO : Hid (_) := how
      clear hcell hc ci hn how hown hB1
      go_wp2_with fail
      refine (toNode2 _ _ _ _ _ _ _ _ (D k).S _ HI.out hnk).mono ?_
      rintro e w2 ⟨g2, rfl, i2, hB2, hg2⟩
      have hxl : xs.length = len * 6 := HO.out.1
      have f0 := (ownsRow_below HO.out hB2).frozenAt (k * 6)
      obtain ⟨z0, y0⟩ := own_some (ownsRow_below HO.out hB2) (k * 6) (by omega)
      have f1 := (ownsRow_below HO.out hB2).frozenAt (k * 6 + 1)
      obtain ⟨z1, y1⟩ := own_some (ownsRow_below HO.out hB2) (k * 6 + 1) (by omega)
      have f2 := (ownsRow_below HO.out hB2).frozenAt (k * 6 + 2)
      obtain ⟨z2, y2⟩ := own_some (ownsRow_below HO.out hB2) (k * 6 + 2) (by omega)
      have f3 := (ownsRow_below HO.out hB2).frozenAt (k * 6 + 3)
      obtain ⟨z3, y3⟩ := own_some (ownsRow_below HO.out hB2) (k * 6 + 3) (by omega)
      have f4 := (ownsRow_below HO.out hB2).frozenAt (k * 6 + 4)
      obtain ⟨z4, y4⟩ := own_some (ownsRow_below HO.out hB2) (k * 6 + 4) (by omega)
      have f5 := (ownsRow_below HO.out hB2).frozenAt (k * 6 + 5)
      obtain ⟨z5, y5⟩ := own_some (ownsRow_below HO.out hB2) (k * 6 + 5) (by omega)
      have HB2 : Hid (Below wr.heap.size wr w2) := hB2
      have HI2 : Hid (IsStrs w2 (some ⟨g2, 0, none⟩) (D k).n (D k).n (D k).S) := i2
      have HG2 : Hid (w.heap.size < g2) := Nat.lt_of_lt_of_le hws hg2
      clear i2 hg2 c0 c1 c2 c3 c4 c5
      go_wp2
      go_roundw
      case rel =>
        have hB2 := HB2.out
        refine ⟨k + 1, ((((((xs).set (k * 6) (.int .i64 (D k).a)).set (k * 6 + 1) (.int .i64 (D k).s)).set (k * 6 + 2) (.int .i64 (D k).k)).set (k * 6 + 3) (.string (D k).key)).set (k * 6 + 4) (.string (D k).text)).set (k * 6 + 5) (.slice (some ⟨g2, 0, none⟩) (D k).n (D k).n), fun j => if j = k then g2 else G j, by omega, by go_num, ?_, ?_, ?_⟩
        · exact (((((((((((((ownsRow_below HO.out hB2).stored _ _).1).stored _ _).1).stored _ _).1).stored _ _).1).stored _ _).1).stored _ _).1)
        · intro j hj
          have hne : ∀ j, w.heap.size < j → j ≠ w.heap.size := fun j h => by omega
          rcases Nat.lt_succ_iff_lt_or_eq.1 hj with h1 | rfl
          · obtain ⟨p1, p2, p3⟩ := HA.out j h1
            have e1 : (if j = k then g2 else G j) = G j := if_neg (by omega)
            refine ⟨?_, by show w.heap.size < (if j = k then g2 else G j); rw [e1]; exact p2, ?_⟩
            · unfold Laid6
              rw [get_set6 xs k j 0 _ _ _ _ _ _ h1 (by omega), get_set6 xs k j 1 _ _ _ _ _ _ h1 (by omega), get_set6 xs k j 2 _ _ _ _ _ _ h1 (by omega), get_set6 xs k j 3 _ _ _ _ _ _ h1 (by omega), get_set6 xs k j 4 _ _ _ _ _ _ h1 (by omega), get_set6 xs k j 5 _ _ _ _ _ _ h1 (by omega)]
              show _ ∧ _ ∧ _ ∧ _ ∧ _ ∧ _ = some (Value.slice (some ⟨if j = k then g2 else G j, 0, none⟩) _ _)
              rw [e1]
              exact p1
            · show IsStrs _ (some ⟨if j = k then g2 else G j, 0, none⟩) _ _ _
              rw [e1]
              exact ((((((p3.below hB2).setCell (hne _ p2)).setCell (hne _ p2)).setCell (hne _ p2)).setCell (hne _ p2)).setCell (hne _ p2)).setCell (hne _ p2)
          · have e1 : (if j = j then g2 else G j) = g2 := if_pos rfl
            refine ⟨?_, by show w.heap.size < (if j = j then g2 else G j); rw [e1]; exact HG2.out, ?_⟩
            · unfold Laid6
              refine ⟨?_, ?_, ?_, ?_, ?_, ?_⟩
              · rw [List.getElem?_set_ne (by omega), List.getElem?_set_ne (by omega), List.getElem?_set_ne (by omega), List.getElem?_set_ne (by omega), List.getElem?_set_ne (by omega), Nat.add_zero, List.getElem?_set_self (by omega)]
              · rw [List.getElem?_set_ne (by omega), List.getElem?_set_ne (by omega), List.getElem?_set_ne (by omega), List.getElem?_set_ne (by omega), List.getElem?_set_self (by simp; omega)]
              · rw [List.getElem?_set_ne (by omega), List.getElem?_set_ne (by omega), List.getElem?_set_ne (by omega), List.getElem?_set_self (by simp; omega)]
              · rw [List.getElem?_set_ne (by omega), List.getElem?_set_ne (by omega), List.getElem?_set_self (by simp; omega)]
              · rw [List.getElem?_set_ne (by omega), List.getElem?_set_self (by simp; omega)]
              · rw [List.getElem?_set_self (by simp; omega)]
                simp
            · show IsStrs _ (some ⟨if j = j then g2 else G j, 0, none⟩) _ _ _
              rw [e1]
              have hn2 := hne _ HG2.out
              exact (((((HI2.out.setCell hn2).setCell hn2).setCell hn2).setCell hn2).setCell hn2).setCell hn2
        · exact (((((((hB.trans (hB2.mono hB.size)).setCell (Nat.le_refl _) _).setCell (Nat.le_refl _) _).setCell (Nat.le_refl _) _).setCell (Nat.le_refl _) _).setCell (Nat.le_refl _) _).setCell (Nat.le_refl _) _)
      case measure => simp [intOf]; omega
    · have hke : k = len := by omega
      subst hke
      have hfin : IsNds wr (some ⟨w.heap.size, 0, none⟩) k k (fun i => (D i).at (G i)) := by
        refine ⟨Nat.le_refl _, by omega, fun hp => ?_⟩
        refine ⟨w.heap.size, 0, rfl, own_live how, fun j hj => ?_⟩
        obtain ⟨⟨g0, g1, g2, g3, g4, g5⟩, _, q⟩ := HA.out j hj
        refine ⟨?_, ?_, ?_, ?_, ?_, ?_, q⟩
        · rw [Nat.zero_add, how.cellAt _ (by omega)]; exact g0
        · rw [Nat.zero_add, how.cellAt _ (by omega)]; exact g1
        · rw [Nat.zero_add, how.cellAt _ (by omega)]; exact g2
        · rw [Nat.zero_add, how.cellAt _ (by omega)]; exact g3
        · rw [Nat.zero_add, how.cellAt _ (by omega)]; exact g4
        · rw [Nat.zero_add, how.cellAt _ (by omega)]; exact g5
      clear how hown hB1 HA
      go_wp2
      go_ret
      exact ⟨_, G, rfl, hfin, hB⟩

set_option maxHeartbeats 1000000 in
theorem eqNodeS_like (a a' : Option Addr) (len cap cap' : Nat) (D E : Nat → Nd) (w : World) (h : IsNds w a len cap D) (h' : IsNds w a' len cap' E) (hL : ∀ i, i < len → (D i).Like (E i)) :
    Calls Tryz.prog 21 #[.slice a len cap, .slice a' len cap'] w fun e w' => e = .returned (.bool true) ∧ Below w.heap.size w w' := by
  obtain ⟨hlc, hcm, hc⟩ := h
  obtain ⟨hlc', hcm', hc'⟩ := h'
  have hbn : ((len : Int) != (len : Int)) = false := by simp
  go_enter Tryz.func21, Tryz.ntmps21
  go_wp2
  go_loopw [5] (fun i wr => ∃ (k : Nat), k ≤ len ∧ i = .int .i64 k ∧ Below w.heap.size w wr) (fun i _ => len - (intOf i).toNat)
  case atStart => exact ⟨0, Nat.zero_le _, rfl, Below.refl _ _⟩
  case round =>
    obtain ⟨k, hk, rfl, hB⟩ := hrel
    by_cases hlt : k < len
    · obtain ⟨b, off, rfl, hbs, hcell⟩ := hc (by omega)
      obtain ⟨b', off', rfl, hbs', hcell'⟩ := hc' (by omega)
      have n1 := (hcell k hlt)
      have n2 := (hcell' k hlt)
      have m1 : Hid (NdAt wr b (off + k * 6) (D k)) := ⟨(hB.cell (p := ⟨b, _, none⟩) hbs).trans n1.c0, (hB.cell (p := ⟨b, _, none⟩) hbs).trans n1.c1, (hB.cell (p := ⟨b, _, none⟩) hbs).trans n1.c2, (hB.cell (p := ⟨b, _, none⟩) hbs).trans n1.c3, (hB.cell (p := ⟨b, _, none⟩) hbs).trans n1.c4, (hB.cell (p := ⟨b, _, none⟩) hbs).trans n1.c5, n1.i.below hB⟩
      have m2 : Hid (NdAt wr b' (off' + k * 6) (E k)) := ⟨(hB.cell (p := ⟨b', _, none⟩) hbs').trans n2.c0, (hB.cell (p := ⟨b', _, none⟩) hbs').trans n2.c1, (hB.cell (p := ⟨b', _, none⟩) hbs').trans n2.c2, (hB.cell (p := ⟨b', _, none⟩) hbs').trans n2.c3, (hB.cell (p := ⟨b', _, none⟩) hbs').trans n2.c4, (hB.cell (p := ⟨b', _, none⟩) hbs').trans n2.c5, n2.i.below hB⟩
      have hltI : (k : Int) < (len : Int) := by omega
      have hLk := hL k hlt
      clear n1 n2 hcell hcell' hc hc' hL
      obtain ⟨l1, l2, l3, l4, l5, l6, l7⟩ := hLk
      have HL : Hid (∀ v : World, IsStrs v (D k).u (D k).n (D k).cap (D k).S → IsStrs v (E k).u (E k).n (E k).cap (E k).S → Calls Tryz.prog 93 #[.agg #[.int .i64 (D k).a, .int .i64 (D k).s, .int .i64 (D k).k, .string (D k).key, .string (D k).text, .slice (D k).u (D k).n (D k).cap], .agg #[.int .i64 (E k).a, .int .i64 (E k).s, .int .i64 (E k).k, .string (E k).key, .string (E k).text, .slice (E k).u (E k).n (E k).cap]] v fun e w' => e = .returned (.bool true) ∧ Below v.heap.size v w') := by
        intro v hv hv'
        rw [← l1, ← l2, ← l3, ← l4, ← l5, ← l6]
        rw [← l6, ← l7] at hv'
        exact eqNode_same _ _ _ _ _ _ _ _ _ _ _ v hv hv'
      clear l1 l2 l3 l4 l5 l6 l7
      have HK : Hid (∀ w', Below wr.heap.size wr w' → (w'.cell? ⟨b, off + k * 6, none⟩ = some (.int .i64 (D k).a) ∧ w'.cell? ⟨b, off + k * 6 + 1, none⟩ = some (.int .i64 (D k).s) ∧ w'.cell? ⟨b, off + k * 6 + 2, none⟩ = some (.int .i64 (D k).k) ∧ w'.cell? ⟨b, off + k * 6 + 3, none⟩ = some (.string (D k).key) ∧ w'.cell? ⟨b, off + k * 6 + 4, none⟩ = some (.string (D k).text) ∧ w'.cell? ⟨b, off + k * 6 + 5, none⟩ = some (.slice (D k).u (D k).n (D k).cap) ∧ w'.cell? ⟨b', off' + k * 6, none⟩ = some (.int .i64 (E k).a) ∧ w'.cell? ⟨b', off' + k * 6 + 1, none⟩ = some (.int .i64 (E k).s) ∧ w'.cell? ⟨b', off' + k * 6 + 2, none⟩ = some (.int .i64 (E k).k) ∧ w'.cell? ⟨b', off' + k * 6 + 3, none⟩ = some (.string (E k).key) ∧ w'.cell? ⟨b', off' + k * 6 + 4, none⟩ = some (.string (E k).text) ∧ w'.cell? ⟨b', off' + k * 6 + 5, none⟩ = some (.slice (E k).u (E k).n (E k).cap))) := fun w' hB => by
        have n1 := m1.out.below hB
        have n2 := m2.out.below hB
        exact ⟨n1.c0, n1.c1, n1.c2, n1.c3, n1.c4, n1.c5, n2.c0, n2.c1, n2.c2, n2.c3, n2.c4, n2.c5⟩
      have HB : Hid (Below w.heap.size w wr) := hB
      clear hB
      go_wp2
      go_region_held3 (fun w' => w'.cell? ⟨b, off + k * 6, none⟩ = some (.int .i64 (D k).a) ∧ w'.cell? ⟨b, off + k * 6 + 1, none⟩ = some (.int .i64 (D k).s) ∧ w'.cell? ⟨b, off + k * 6 + 2, none⟩ = some (.int .i64 (D k).k) ∧ w'.cell? ⟨b, off + k * 6 + 3, none⟩ = some (.string (D k).key) ∧ w'.cell? ⟨b, off + k * 6 + 4, none⟩ = some (.string (D k).text) ∧ w'.cell? ⟨b, off + k * 6 + 5, none⟩ = some (.slice (D k).u (D k).n (D k).cap) ∧ w'.cell? ⟨b', off' + k * 6, none⟩ = some (.int .i64 (E k).a) ∧ w'.cell? ⟨b', off' + k * 6 + 1, none⟩ = some (.int .i64 (E k).s) ∧ w'.cell? ⟨b', off' + k * 6 + 2, none⟩ = some (.int .i64 (E k).k) ∧ w'.cell? ⟨b', off' + k * 6 + 3, none⟩ = some (.string (E k).key) ∧ w'.cell? ⟨b', off' + k * 6 + 4, none⟩ = some (.string (E k).text) ∧ w'.cell? ⟨b', off' + k * 6 + 5, none⟩ = some (.slice (E k).u (E k).n (E k).cap)) (first | exact HK.out _ hBd | exact HK.out _ (Below.refl _ _).drew) ((go_at_call 93; refine (HL.out _ (m1.out.below (Below.refl _ _).drew).i (m2.out.below (Below.refl _ _).drew).i).mono ?_; rintro e w7 ⟨rfl, hB7⟩; have hBd : Below wr.heap.size wr w7 := ((Below.refl _ _).drew).trans hB7))
      have hB := HB.out
      go_wp2
      go_roundw
      case rel => exact ⟨k + 1, by omega, by go_num, hB.trans (hBd.mono hB.size)⟩
      case measure => simp [intOf]; omega
    · have hke : k = len := by omega
      subst hke
      go_wp2
      go_ret
      exact ⟨rfl, hB⟩
end Go.Proofs.YtlibipbpaigmdaaGreatDoor
