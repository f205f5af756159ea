/-
  Copies of commitments that the call owns, and marks written into them. No condition but that the slices read and are not too long.
-/
import Derived.Test.YtcaacchhmhdbpaaDoorCm3
import Derived.Test.YtcaacchhmhdbpaaDoorMark3
namespace Go.Proofs.YtcaacchhmhdbpaaDoor
open Go.RowKit
set_option linter.unusedVariables false

/-- a row of len commitments at block g that can be written, their heads at blocks G i; none of these blocks is below base -/
def COwn (w : World) (base g len : Nat) (G n : Nat → Nat) : Prop :=
  base ≤ g ∧ ∃ ys, w.ownsRow 0 39 3 (.slice (some ⟨g, 0, none⟩) len len) len ys ∧ ∀ i, i < len → ys[i * 3 + 2]? = some (.slice (some ⟨G i, 0, none⟩) (n i) (n i)) ∧ Rw w (G i) (n i) ∧ base ≤ G i

set_option maxHeartbeats 1000000 in
theorem toCm_own (a c : Int) (u : Option Addr) (len cap : Nat) (S : Nat → ByteArray) (w : World) (h : IsStrs w u len cap S) (hl : len ≤ 1048576) :
    Calls Tryd.prog 19 #[.agg #[.int .i64 a, .int .i64 c, .slice u len cap]] w fun e w' => ∃ g, e = .returned (.agg #[.int .i64 a, .int .i64 c, .slice (some ⟨g, 0, none⟩) len len]) ∧ IsStrs w' (some ⟨g, 0, none⟩) len len S ∧ Below w.heap.size w w' ∧ w.heap.size ≤ g ∧ Rw w' g len := by
  go_enter Tryd.func19, Tryd.ntmps19
  go_wp2_with fail
  obtain ⟨W3, hW3⟩ : ∃ W3, W3 = ((w.alloc (.cells #[.int .i64 a, .int .i64 c, .slice u len cap] 37)).alloc (.cells #[.int .i64 0, .int .i64 0, .slice none 0 0] 39)).alloc (.cells #[.int .i64 a, .int .i64 c, .slice none 0 0] 39) := ⟨_, rfl⟩
  rw [← hW3]
  have hB3 : Below w.heap.size w W3 := by rw [hW3]; exact (((Below.refl _ _).alloc (Nat.le_refl _) _).alloc (by simp) _).alloc (by simp; omega) _
  have g2 : W3.heap[w.heap.size + 1]? = some (.cells #[.int .i64 0, .int .i64 0, .slice none 0 0] 39) := by
    rw [hW3, Below.heap_alloc _ _ _ (by simp)]
    have := heap_alloc_new (w.alloc (.cells #[.int .i64 a, .int .i64 c, .slice u len cap] 37)) (.cells #[.int .i64 0, .int .i64 0, .slice none 0 0] 39)
    simpa using this
  have g3 : W3.heap[w.heap.size + 2]? = some (.cells #[.int .i64 a, .int .i64 c, .slice none 0 0] 39) := by
    rw [hW3]
    have := heap_alloc_new ((w.alloc (.cells #[.int .i64 a, .int .i64 c, .slice u len cap] 37)).alloc (.cells #[.int .i64 0, .int .i64 0, .slice none 0 0] 39)) (.cells #[.int .i64 a, .int .i64 c, .slice none 0 0] 39)
    simpa using this
  clear hW3
  refine (toStrs_own u len cap S _ (h.below hB3) hl).mono ?_
  rintro e w1 ⟨g, rfl, hI, hB, hge, hrw⟩
  have HRW : Hid (Rw w1 g len) := hrw
  clear hrw
  have HG2 : Hid (w.heap.size + 2 < g) := Nat.lt_of_lt_of_le (lt_of_block g3) hge
  clear hge
  have h2 : w1.heap[w.heap.size + 1]? = some (.cells #[.int .i64 0, .int .i64 0, .slice none 0 0] 39) := (hB.block _ (lt_of_block g2)).trans g2
  have h3 : w1.heap[w.heap.size + 2]? = some (.cells #[.int .i64 a, .int .i64 c, .slice none 0 0] 39) := (hB.block _ (lt_of_block g3)).trans g3
  have c0 : w1.cell? ⟨w.heap.size + 2, 0, none⟩ = some (.int .i64 a) := cellN h3
  have cf0 : w1.frozen? ⟨w.heap.size + 2, 0, none⟩ = false := frozN h3
  have c1 : w1.cell? ⟨w.heap.size + 2, 1, none⟩ = some (.int .i64 c) := cellN h3
  have cf1 : w1.frozen? ⟨w.heap.size + 2, 1, none⟩ = false := frozN h3
  have c2 : w1.cell? ⟨w.heap.size + 2, 2, none⟩ = some (.slice none 0 0) := cellN h3
  have cf2 : w1.frozen? ⟨w.heap.size + 2, 2, none⟩ = false := frozN h3
  have HB1 : Hid (Below w.heap.size w w1) := hB3.trans (hB.mono hB3.size)
  have HI : Hid (_) := hI
  have H2 : Hid ((w1.setCell ⟨w.heap.size + 1 + 1, 2, none⟩ (.slice (some ⟨g, 0, none⟩) len len)).heap[w.heap.size + 1]? = some (.cells #[.int .i64 0, .int .i64 0, .slice none 0 0] 39)) := by
    show _ = _
    rw [Below.heap_setCell _ _ _ _ (by simp)]
    exact h2
  obtain ⟨q, hq⟩ : ∃ q, q = #[Value.int .i64 a, .int .i64 c, .slice (some ⟨g, 0, none⟩) len len] := ⟨_, rfl⟩
  have hi6 : (Tryd.prog.info? 39).map (·.size) = some q.size := by rw [hq]; exact infoC
  have ho6 : (#[Value.int .i64 0, .int .i64 0, .slice none 0 0] : Array Value).size = q.size := by rw [hq]; rfl
  have h16 : q.all (·.oneCell') = true := by rw [hq]; simp [Value.oneCell']
  have HQ : Hid (q = #[Value.int .i64 a, .int .i64 c, .slice (some ⟨g, 0, none⟩) len len]) := hq
  clear h2 h3 g2 g3 hB hB3 hI h
  go_wp2_with (refine wpList_store_row rfl 39 _ _ rfl (w.heap.size + 1) q rfl (congrArg Value.agg hq.symm) 39 _ H2.out hi6 ho6 h16 ?_)
  refine bodyPost_ret (v := .agg q) (results_cell_row rfl _ _ (w.heap.size + 1) 39 _ _ _ rfl (setRow_heap _ _ _ _ _ _ H2.out) Tryd.underlying39 rfl hi6) rfl ⟨g, ret_val (by rw [HQ.out]), ?_, ?_, Nat.le_of_lt (Nat.lt_trans (by omega) HG2.out), HRW.out.kept (by have := HG2.out; rw [setRow_other _ _ _ _ (by omega), Below.heap_setCell _ _ _ _ (by simp; omega)])⟩
  · obtain ⟨i1, i2, i3⟩ := HI.out
    refine ⟨i1, i2, fun hp => ?_⟩
    obtain ⟨b, off, e1, e2, e3⟩ := i3 hp
    simp only [Option.some.injEq, Addr.mk.injEq, and_true] at e1
    obtain ⟨rfl, rfl⟩ := e1
    have hg2 := HG2.out
    refine ⟨g, 0, rfl, by simpa using e2, fun i hi => ?_⟩
    rw [cell_setRow_other _ _ _ _ (by simp <;> omega), World.cell?_setCell_other _ _ _ _ (by simp <;> omega)]
    exact e3 i hi
  · exact below_setRow (HB1.out.setCell (p := ⟨w.heap.size + 1 + 1, 2, none⟩) (by show w.heap.size ≤ w.heap.size + 1 + 1; omega) _) (by omega) _

set_option maxRecDepth 10000 in
set_option maxHeartbeats 2000000 in
theorem toCms_own (a : Option Addr) (len cap : Nat) (D : Nat → Cm) (w : World) (h : IsCms w a len cap D) (hl : len ≤ 1048576) (hn : ∀ i, i < len → (D i).n ≤ 1048576) :
    Calls Tryd.prog 7 #[.slice a len cap] w fun e w' => ∃ (g : Nat) (G : Nat → Nat), e = .returned (.slice (some ⟨g, 0, none⟩) len len) ∧ IsCms w' (some ⟨g, 0, none⟩) len len (fun i => (D i).at (G i)) ∧ Below w.heap.size w w' ∧ COwn w' w.heap.size g len G (fun i => (D i).n) := by
  obtain ⟨hlc, hcm, hc⟩ := h
  obtain ⟨i0, hi, hz0, hz1, hz2⟩ := info_parts infoNC
  have hb2 : i0.bytes * len ≤ 281474976710656 := by rw [hz2]; omega
  have hb3 : len ≤ maxLen := by unfold maxLen; omega
  go_enter Tryd.func7, Tryd.ntmps7
  go_wp2_with (at_make; refine wpList_make_full _ rfl _ _ 25 rfl w.heap.size 39 i0 (.agg #[.int .i64 0, .int .i64 0, .slice none 0 0]) 3 Tryd.underlying25 hi hz0 hz1 .i64 .i64 _ _ len rfl rfl rfl rfl hb2 hb3 (Nat.le_refl _) ?_; intro w1 hown hgrow)
  have hB1 : Below w.heap.size w w1 := (Below.refl _ w).grown hgrow (Nat.le_refl _) (fun k hk => by cases hk)
  clear hgrow
  go_loopw [4] (fun i wr => ∃ (k : Nat) (xs : List Value) (G : Nat → Nat), k ≤ len ∧ i = .int .i64 k ∧ wr.ownsRow w.heap.size 39 3 (.slice (some ⟨w.heap.size, 0, none⟩) len len) len xs ∧ Hid (∀ j, j < k → Laid3 xs D G j ∧ w.heap.size < G j ∧ IsStrs wr (some ⟨G j, 0, none⟩) (D j).n (D j).n (D j).S ∧ Rw wr (G j) (D j).n) ∧ Below w.heap.size w wr)
    (fun i _ => len - (intOf i).toNat)
  case atStart => exact ⟨0, _, fun _ => 0, Nat.zero_le _, rfl, hown, fun j hj => absurd hj (Nat.not_lt_zero _), hB1⟩
  case round =>
    obtain ⟨k, xs, G, hk, rfl, how, HA, hB⟩ := hrel
    by_cases hlt : k < len
    · obtain ⟨b, off, rfl, hbs, hcell⟩ := hc (by omega)
      have hnk := hn k hlt
      obtain ⟨c0, c1, c2, ci⟩ : CmAt wr b (off + k * 3) (D k) := by
        have := hcell k hlt
        refine ⟨(hB.cell (p := ⟨b, _, none⟩) hbs).trans this.c0, (hB.cell (p := ⟨b, _, none⟩) hbs).trans this.c1, (hB.cell (p := ⟨b, _, none⟩) hbs).trans this.c2, this.i.below hB⟩
      have hltI : (k : Int) < (len : Int) := by omega
      have hws : w.heap.size < wr.heap.size := own_live how
      have HI : Hid (IsStrs wr (D k).u (D k).n (D k).cap (D k).S) := ci
      have HO : Hid (_) := how
      clear hcell hc ci hn how hown hB1
      go_wp2_with fail
      refine (toCm_own _ _ _ _ _ (D k).S _ HI.out hnk).mono ?_
      rintro e w2 ⟨g2, rfl, i2, hB2, hg2, hrw2⟩
      have HRW2 : Hid (Rw w2 g2 (D k).n) := hrw2
      clear hrw2
      have hxl : xs.length = len * 3 := HO.out.1
      have f0 := (ownsRow_below HO.out hB2).frozenAt (k * 3)
      obtain ⟨z0, y0⟩ := own_some (ownsRow_below HO.out hB2) (k * 3) (by omega)
      have f1 := (ownsRow_below HO.out hB2).frozenAt (k * 3 + 1)
      obtain ⟨z1, y1⟩ := own_some (ownsRow_below HO.out hB2) (k * 3 + 1) (by omega)
      have f2 := (ownsRow_below HO.out hB2).frozenAt (k * 3 + 2)
      obtain ⟨z2, y2⟩ := own_some (ownsRow_below HO.out hB2) (k * 3 + 2) (by omega)
      have HB2 : Hid (Below wr.heap.size wr w2) := hB2
      have HI2 : Hid (IsStrs w2 (some ⟨g2, 0, none⟩) (D k).n (D k).n (D k).S) := i2
      have HG2 : Hid (w.heap.size < g2) := Nat.lt_of_lt_of_le hws hg2
      clear i2 hg2 c0 c1 c2
      go_wp2
      go_roundw
      case rel =>
        have hB2 := HB2.out
        refine ⟨k + 1, (((xs).set (k * 3) (.int .i64 (D k).a)).set (k * 3 + 1) (.int .i64 (D k).c)).set (k * 3 + 2) (.slice (some ⟨g2, 0, none⟩) (D k).n (D k).n), fun j => if j = k then g2 else G j, by omega, by go_num, ?_, ?_, ?_⟩
        · exact (((((((ownsRow_below HO.out hB2).stored _ _).1).stored _ _).1).stored _ _).1)
        · intro j hj
          have hne : ∀ j, w.heap.size < j → j ≠ w.heap.size := fun j h => by omega
          rcases Nat.lt_succ_iff_lt_or_eq.1 hj with h1 | rfl
          · obtain ⟨p1, p2, p3, p4⟩ := HA.out j h1
            have e1 : (if j = k then g2 else G j) = G j := if_neg (by omega)
            refine ⟨?_, by show w.heap.size < (if j = k then g2 else G j); rw [e1]; exact p2, ?_, ?_⟩
            · unfold Laid3
              rw [get_set3 xs k j 0 _ _ _ h1 (by omega), get_set3 xs k j 1 _ _ _ h1 (by omega), get_set3 xs k j 2 _ _ _ h1 (by omega)]
              show _ ∧ _ ∧ _ = some (Value.slice (some ⟨if j = k then g2 else G j, 0, none⟩) _ _)
              rw [e1]
              exact p1
            · show IsStrs _ (some ⟨if j = k then g2 else G j, 0, none⟩) _ _ _
              rw [e1]
              exact (((p3.below hB2).setCell (hne _ p2)).setCell (hne _ p2)).setCell (hne _ p2)
            · show Rw _ (if j = k then g2 else G j) _
              rw [e1]
              exact (((p4.below hB2).setCell (hne _ p2)).setCell (hne _ p2)).setCell (hne _ p2)
          · have e1 : (if j = j then g2 else G j) = g2 := if_pos rfl
            refine ⟨?_, by show w.heap.size < (if j = j then g2 else G j); rw [e1]; exact HG2.out, ?_, ?_⟩
            · unfold Laid3
              refine ⟨?_, ?_, ?_⟩
              · rw [List.getElem?_set_ne (by omega), List.getElem?_set_ne (by omega), Nat.add_zero, List.getElem?_set_self (by omega)]
              · rw [List.getElem?_set_ne (by omega), List.getElem?_set_self (by simp; omega)]
              · rw [List.getElem?_set_self (by simp; omega)]
                simp
            · show IsStrs _ (some ⟨if j = j then g2 else G j, 0, none⟩) _ _ _
              rw [e1]
              have hn2 := hne _ HG2.out
              exact ((HI2.out.setCell hn2).setCell hn2).setCell hn2
            · show Rw _ (if j = j then g2 else G j) _
              rw [e1]
              have hn2 := hne _ HG2.out
              exact ((HRW2.out.setCell hn2).setCell hn2).setCell hn2
        · exact ((((hB.trans (hB2.mono hB.size)).setCell (Nat.le_refl _) _).setCell (Nat.le_refl _) _).setCell (Nat.le_refl _) _)
      case measure => simp [intOf]; omega
    · have hke : k = len := by omega
      subst hke
      have hfin : IsCms wr (some ⟨w.heap.size, 0, none⟩) k k (fun i => (D i).at (G i)) := by
        refine ⟨Nat.le_refl _, by omega, fun hp => ?_⟩
        refine ⟨w.heap.size, 0, rfl, own_live how, fun j hj => ?_⟩
        obtain ⟨⟨g0, g1, g2⟩, _, q, _⟩ := HA.out j hj
        refine ⟨?_, ?_, ?_, q⟩
        · rw [Nat.zero_add, how.cellAt _ (by omega)]; exact g0
        · rw [Nat.zero_add, how.cellAt _ (by omega)]; exact g1
        · rw [Nat.zero_add, how.cellAt _ (by omega)]; exact g2
      have HNO : Hid (COwn wr w.heap.size w.heap.size k G (fun i => (D i).n)) := ⟨Nat.le_refl _, xs, ownsRow_zero how, fun j hj => ⟨(HA.out j hj).1.2.2, (HA.out j hj).2.2.2, Nat.le_of_lt (HA.out j hj).2.1⟩⟩
      clear how hown hB1 HA
      go_wp2
      go_ret
      exact ⟨_, G, rfl, hfin, hB, HNO.out⟩

theorem COwn.below {w w' : World} {base g len : Nat} {G n : Nat → Nat} (h : COwn w base g len G n) (hB : Below w.heap.size w w') : COwn w' base g len G n := by
  obtain ⟨hb, ys, ho, hr⟩ := h
  exact ⟨hb, ys, ownsRow_below ho hB, fun i hi => ⟨(hr i hi).1, (hr i hi).2.1.below hB, (hr i hi).2.2⟩⟩
theorem COwn.top {w : World} {base g len : Nat} {G n : Nat → Nat} (h : COwn w base g len G n) : g < w.heap.size ∧ ∀ i, i < len → G i < w.heap.size := by
  obtain ⟨_, ys, ho, hr⟩ := h
  exact ⟨own_live ho, fun i hi => (hr i hi).2.1.lt⟩
theorem COwn.kept {p : Nat → Prop} {w w' : World} {base g len : Nat} {G n : Nat → Nat} (h : COwn w base g len G n) (hK : Kept p w w') (hp : ∀ b, base ≤ b → p b) : COwn w' base g len G n := by
  obtain ⟨hb, ys, ho, hr⟩ := h
  refine ⟨hb, ys, ?_, fun i hi => ⟨(hr i hi).1, (hr i hi).2.1.kept (hK.block _ (hr i hi).2.1.lt (hp _ (hr i hi).2.2)), (hr i hi).2.2⟩⟩
  obtain ⟨h1, h2⟩ := ho
  refine ⟨h1, ?_⟩
  rcases h2 with h2 | ⟨g', cap, cur, hv, hg, hh, r⟩
  · exact Or.inl h2
  · have hv' := hv
    simp only [Value.slice.injEq, Option.some.injEq, Addr.mk.injEq, and_true, true_and] at hv'
    obtain ⟨rfl, rfl⟩ := hv'
    exact Or.inr ⟨g, _, cur, hv, hg, (hK.block _ (lt_of_block hh) (hp _ hb)).trans hh, r⟩

theorem rowc_ne {w : World} {g g' n m : Nat} {ys : List Value} (h : w.ownsRow 0 39 3 (.slice (some ⟨g, 0, none⟩) n n) n ys) (h' : Rw w g' m) : g' ≠ g := by
  intro e
  subst e
  obtain ⟨xs, h'⟩ := h'
  rcases h.2 with ⟨h1, _⟩ | ⟨g1, c1, cur1, e1, _, hg1, _⟩
  · simp at h1
  rcases h'.2 with ⟨h2, _⟩ | ⟨g2, c2, cur2, e2, _, hg2, _⟩
  · simp at h2
  simp only [Value.slice.injEq, Option.some.injEq, Addr.mk.injEq, and_true, true_and] at e1 e2
  obtain ⟨rfl, rfl⟩ := e1
  obtain ⟨rfl, rfl⟩ := e2
  rw [hg1] at hg2
  simp at hg2

set_option maxHeartbeats 2000000 in
theorem markCms_any (g len base top k0 : Nat) (G n : Nat → Nat) (w : World) (h : COwn w base g len G n) (hl : len ≤ 1048576) (hn : ∀ i, i < len → n i ≤ 1048576) (hg : g < top) (hG : ∀ i, i < len → G i < top) (hk0 : 0 < k0) (hk1 : k0 ≤ 1099516870657) :
    Calls Tryd.prog 13 #[.slice (some ⟨g, 0, none⟩) len len, .int .i64 k0] w fun e w' => ∃ k : Nat, e = .returned (.int .i64 k) ∧ 0 < k ∧ k ≤ 2199033741314 ∧ Kept (fun b => b < base ∨ top ≤ b) w w' := by
  go_enter Tryd.func13, Tryd.ntmps13
  go_wp2
  go_loopw [1, 5] (fun x i wr => ∃ (j k : Nat), j ≤ len ∧ i = .int .i64 j ∧ x = .int .i64 k ∧ 0 < k ∧ k ≤ k0 + j * 1048578 ∧ COwn wr base g len G n ∧ Kept (fun b => b < base ∨ top ≤ b) w wr)
    (fun _ i _ => len - (intOf i).toNat)
  case atStart => exact ⟨0, k0, Nat.zero_le _, rfl, rfl, by omega, by omega, h, Kept.refl _ _⟩
  case round =>
    obtain ⟨j, k, hj, rfl, rfl, hk0', hk, hO, hK⟩ := hrel
    by_cases hlt : j < len
    · have hltI : (j : Int) < (len : Int) := by omega
      obtain ⟨hbg, ys, ho, hr⟩ := hO
      have hnj := hn j hlt
      obtain ⟨ry, rr, rb⟩ := hr j hlt
      have hyl : ys.length = len * 3 := ho.1
      have HO : Hid (_) := ho
      have HR : Hid (_) := hr
      have f0 := ho.frozenAt (j * 3)
      obtain ⟨z0, y0⟩ := own_some ho (j * 3) (by omega)
      have f1 := ho.frozenAt (j * 3 + 1)
      obtain ⟨z1, y1⟩ := own_some ho (j * 3 + 1) (by omega)
      have y2 : wr.cell? ⟨g, j * 3 + 2, none⟩ = some (.slice (some ⟨G j, 0, none⟩) (n j) (n j)) := by
        rw [ho.cellAt _ (by omega)]
        exact ry
      clear ho hr h
      go_wp2_with fail
      obtain ⟨wc, hwc⟩ : ∃ wc, wc = (wr.setCell ⟨g, j * 3, none⟩ (.int .i64 (k : Int))).setCell ⟨g, j * 3 + 1, none⟩ (.int .i64 ((k : Int) + 1)) := ⟨_, rfl⟩
      rw [← hwc]
      have hoc : wc.ownsRow 0 39 3 (.slice (some ⟨g, 0, none⟩) len len) len ((ys.set (j * 3) (.int .i64 (k : Int))).set (j * 3 + 1) (.int .i64 ((k : Int) + 1))) := by
        rw [hwc]
        exact (((World.ownsRow.stored HO.out _ _).1).stored _ _).1
      have hrc : ∀ i, i < len → Rw wc (G i) (n i) := fun i hi => by
        have hne := rowc_ne HO.out (HR.out i hi).2.1
        rw [hwc]
        exact ((HR.out i hi).2.1.setCell hne).setCell hne
      have hgb : ¬ (g < base ∨ top ≤ g) := by omega
      have hKc : Kept (fun b => b < base ∨ top ≤ b) w wc := by
        rw [hwc]
        exact kept_setCell (kept_setCell hK hgb _) hgb _
      clear hwc f0 y0 f1 y1 y2 hK
      obtain ⟨xs0, hx0⟩ := hrc j hlt
      refine (markStringS_int _ _ _ _ 0 xs0 (k + 2) (by omega) _ hx0 (by omega) (by omega)).mono ?_
      rintro e w3 ⟨rfl, ho3, hG3⟩
      have hneg := rowc_ne hoc (hrc j hlt)
      have ho4 := hoc.kept hG3 (.inr (by simp [Value.ownBlock]; exact fun e => hneg e.symm))
      have hr4 : ∀ i, i < len → Rw w3 (G i) (n i) := fun i hi => by
        by_cases he : G i = G j
        · have hnn := rw_same (show Rw wc (G j) (n i) by rw [← he]; exact hrc i hi) (hrc j hlt)
          rw [he, hnn]
          exact ⟨_, ho3⟩
        · exact (hrc i hi).kept (hG3.block _ (hrc i hi).lt (by simp [Value.ownBlock]; exact he))
      have hK4 : Kept (fun b => b < base ∨ top ≤ b) w w3 := hKc.trans (Kept.of_grown hG3 (fun b hb => by
        simp [Value.ownBlock] at hb
        have := hG j hlt
        omega))
      have HF : Hid (COwn w3 base g len G n ∧ Kept (fun b => b < base ∨ top ≤ b) w w3) := by
        refine ⟨⟨hbg, _, ho4, fun i hi => ⟨?_, hr4 i hi, (HR.out i hi).2.2⟩⟩, hK4⟩
        rw [List.getElem?_set_ne (by omega), List.getElem?_set_ne (by omega)]
        exact (HR.out i hi).1
      clear hoc hrc hKc hx0 ho3 hG3 ho4 hr4 hK4 HO HR ry rr
      go_wp2
      go_roundw
      case rel => exact ⟨j + 1, k + 2 + n j, by omega, by go_num, by go_num, by omega, by omega, HF.out.1, HF.out.2⟩
      case measure => simp [intOf]; omega
    · have hje : j = len := by omega
      subst hje
      go_wp2
      go_ret
      exact ⟨k, rfl, hk0', by omega, hK⟩
end Go.Proofs.YtcaacchhmhdbpaaDoor
