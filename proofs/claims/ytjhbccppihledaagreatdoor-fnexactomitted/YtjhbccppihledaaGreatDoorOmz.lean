/-
  What the texts on commitments lean on. No condition.
  Commitments as slices: the laws' own functions over them (sizes). No condition but that the slices read.
  Copies of commitments, and holding two slices of them against each other. No condition but that the slices read.
  Both tests of commitments. No condition but that the slices read.
  Copies of commitments that the call owns, and marks written into them. No condition but that the slices read and are not too long.
  How much a slice of nodes holds, counted off any number. No condition but that the slice reads.
  The heads that are none of a dag's ids: plain, and as the specification gathers them. No condition but that the slices read.
  What is left out, as the program gathers it. No condition but that the slices read and the tables lie.
  The law of Omitted returns true. No condition but that the slices read and the tables lie.
-/
import Derived.Test.YtjhbccppihledaaGreatDoorDag2
import Derived.Test.YtjhbccppihledaaGreatDoorMark3
import Derived.Test.YtjhbccppihledaaGreatDoorKeys
import Derived.Test.YtjhbccppihledaaGreatDoorIKeys
import Derived.Test.YtjhbccppihledaaGreatDoorLawS


namespace Go.Proofs.YtjhbccppihledaaGreatDoor
open Go.RowKit
set_option linter.unusedVariables false

set_option maxHeartbeats 1000000 in
theorem szCm2 (a c : Int) (u : Option Addr) (len cap : Nat) (S : Nat → ByteArray) (w : World) (h : IsStrs w u len cap S) (hS : ∀ i, i < len → (S i).size ≤ 9223372036854775807) (L : Int) (hL0 : 0 ≤ L) (hL1 : L ≤ 1048576) :
    Calls Tryz.prog 64 #[.agg #[.int .i64 a, .int .i64 c, .slice u len cap], .int .i64 L] w fun e w' => ∃ r : Int, e = .returned (.int .i64 r) ∧ (r < 0 ∨ (0 ≤ r ∧ r ≤ L ∧ len ≤ 1048576 ∧ ∀ i, i < len → (S i).size ≤ 1048576)) ∧ Below w.heap.size w w' := by
  have HB : Hid (∀ o, Below w.heap.size w (w.alloc o)) := fun o => (Below.refl _ _).alloc (Nat.le_refl _) _
  have HI : Hid (∀ o, IsStrs (w.alloc o) u len cap S) := fun o => h.below ((Below.refl _ _).alloc (Nat.le_refl _) _)
  have HSS : Hid (∀ i, i < len → (S i).size ≤ 9223372036854775807) := hS
  clear h hS
  go_enter Tryz.func64, Tryz.ntmps64
  go_wp2_with fail
  refine (szStrings2 u len cap S _ (HI.out _) _ (by omega) (by omega) HSS.out).mono ?_
  rintro e w1 ⟨r, rfl, hr, rfl⟩
  have HR : Hid (_) := hr
  by_cases h3 : r < 0
  · clear hr
    go_wp2
    go_ret
    exact ⟨_, rfl, .inl (by decide), HB.out _⟩
  · clear hr
    go_wp2
    go_ret
    refine ⟨_, rfl, ?_, HB.out _⟩
    rcases HR.out with hr | ⟨hr0, hrl, hr1, hr2⟩
    · exact absurd hr (by omega)
    · exact .inr ⟨hr0, by omega, hr1, hr2⟩


/-- a commitment as plain data: its fields, where its heads lie and what they are -/
structure Cm where
  a : Int
  c : Int
  u : Option Addr
  n : Nat
  cap : Nat
  S : Nat → ByteArray

/-- commitment d lies at place o of block b -/
structure CmAt (w : World) (b o : Nat) (d : Cm) : Prop where
  c0 : w.cell? ⟨b, o, none⟩ = some (.int .i64 d.a)
  c1 : w.cell? ⟨b, o + 1, none⟩ = some (.int .i64 d.c)
  c2 : w.cell? ⟨b, o + 2, none⟩ = some (.slice d.u d.n d.cap)
  i : IsStrs w d.u d.n d.cap d.S
theorem CmAt.below {w w' : World} {b o : Nat} {d : Cm} (h : CmAt w b o d) (hB : Below w.heap.size w w') : CmAt w' b o d :=
  ⟨(hB.cell (p := ⟨b, o, none⟩) (cell_lt h.c0)).trans h.c0, (hB.cell (p := ⟨b, o + 1, none⟩) (cell_lt h.c0)).trans h.c1, (hB.cell (p := ⟨b, o + 2, none⟩) (cell_lt h.c0)).trans h.c2, h.i.below hB⟩

/-- a slice of commitments that reads as D 0, D 1, .. -/
def IsCms (w : World) (a : Option Addr) (len cap : Nat) (D : Nat → Cm) : Prop :=
  len ≤ cap ∧ cap ≤ 9223372036854775807 ∧ (0 < len → ∃ b off, a = some ⟨b, off, none⟩ ∧ b < w.heap.size ∧ ∀ i, i < len → CmAt w b (off + i * 3) (D i))
theorem IsCms.below {w w' : World} {a : Option Addr} {len cap : Nat} {D : Nat → Cm} (h : IsCms w a len cap D) (hB : Below w.heap.size w w') : IsCms w' a len cap D := by
  obtain ⟨h1, h2, h3⟩ := h
  refine ⟨h1, h2, fun hp => ?_⟩
  obtain ⟨b, off, e, hb, hc⟩ := h3 hp
  exact ⟨b, off, e, by have := hB.size; omega, fun i hi => (hc i hi).below hB⟩

/-- every text of these commitments has a length -/
def CFine (D : Nat → Cm) (len : Nat) : Prop := ∀ i, i < len → ∀ j, j < (D i).n → ((D i).S j).size ≤ 9223372036854775807

/-- the same commitment, its heads laid elsewhere -/
structure Cm.Like (d e : Cm) : Prop where
  a : d.a = e.a
  c : d.c = e.c
  n : d.n = e.n
  S : d.S = e.S
theorem Cm.Like.refl (d : Cm) : d.Like d := ⟨rfl, rfl, rfl, rfl⟩

set_option maxHeartbeats 1000000 in
theorem szCms_any (a : Option Addr) (len cap : Nat) (D : Nat → Cm) (w : World) (h : IsCms w a len cap D) (hF : CFine D len) (L : Int) (hL0 : 0 ≤ L) (hL1 : L ≤ 1048576) :
    Calls Tryz.prog 34 #[.slice a len cap, .int .i64 L] w fun e w' => ∃ r : Int, e = .returned (.int .i64 r) ∧ (r < 0 ∨ (0 ≤ r ∧ r ≤ L ∧ len ≤ 1048576 ∧ ∀ i, i < len → (D i).n ≤ 1048576 ∧ ∀ j, j < (D i).n → ((D i).S j).size ≤ 1048576)) ∧ Below w.heap.size w w' := by
  obtain ⟨hlc, hcm, hc⟩ := h
  by_cases hneg : L - (len : Int) < 0
  · go_enter Tryz.func34, Tryz.ntmps34
    go_wp2
    go_ret
    exact ⟨_, rfl, .inl (by decide), Below.refl _ _⟩
  have hlen : len ≤ 1048576 := by omega
  go_enter Tryz.func34, Tryz.ntmps34
  go_wp2
  go_loopw [1, 5] (fun x i wr => ∃ (k : Nat) (r : Int), k ≤ len ∧ i = .int .i64 k ∧ x = .int .i64 r ∧ 0 ≤ r ∧ r ≤ L ∧ Hid (∀ j, j < k → (D j).n ≤ 1048576 ∧ ∀ q, q < (D j).n → ((D j).S q).size ≤ 1048576) ∧ Below w.heap.size w wr) (fun _ i _ => len - (intOf i).toNat)
  case atStart => exact ⟨0, _, Nat.zero_le _, rfl, rfl, by omega, by omega, fun j hj => absurd hj (Nat.not_lt_zero _), Below.refl _ _⟩
  case round =>
    obtain ⟨k, r, hk, rfl, rfl, hr0, hr1, HA, hB⟩ := hrel
    by_cases hlt : k < len
    · obtain ⟨b, off, rfl, hbs, hcell⟩ := hc (by omega)
      obtain ⟨c0, c1, c2, ci⟩ : CmAt wr b (off + k * 3) (D k) := by
        have := hcell k hlt
        refine ⟨(hB.cell (p := ⟨b, _, none⟩) hbs).trans this.c0, (hB.cell (p := ⟨b, _, none⟩) hbs).trans this.c1, (hB.cell (p := ⟨b, _, none⟩) hbs).trans this.c2, this.i.below hB⟩
      have hltI : (k : Int) < (len : Int) := by omega
      have hf := hF k hlt
      have HI : Hid (IsStrs wr (D k).u (D k).n (D k).cap (D k).S) := ci
      have HF : Hid (_) := hf
      clear hcell hc ci hF hf
      go_wp2_with fail
      refine (szCm2 _ _ _ _ _ (D k).S _ HI.out HF.out r hr0 (by omega)).mono ?_
      rintro e w1 ⟨r1, rfl, hq, hB1⟩
      have HB1 : Hid (Below w.heap.size w w1) := hB.trans (hB1.mono hB.size)
      clear hB1
      rcases hq with hq | ⟨hq0, hq1, hq2, hq3⟩
      · go_wp2
        go_ret
        exact ⟨_, rfl, .inl (by decide), HB1.out⟩
      · have HA' : Hid (∀ j, j < k + 1 → (D j).n ≤ 1048576 ∧ ∀ q, q < (D j).n → ((D j).S q).size ≤ 1048576) := by
          intro j hj
          rcases Nat.lt_succ_iff_lt_or_eq.1 hj with h1 | rfl
          · exact HA.out j h1
          · exact ⟨hq2, hq3⟩
        clear hq3
        go_wp2
        go_roundw
        case rel => exact ⟨k + 1, _, by omega, by go_num, rfl, by omega, by omega, HA', HB1.out⟩
        case measure => simp [intOf]; omega
    · have hke : k = len := by omega
      subst hke
      go_wp2
      go_ret
      exact ⟨_, rfl, .inr ⟨hr0, hr1, hlen, HA.out⟩, hB⟩
end Go.Proofs.YtjhbccppihledaaGreatDoor

namespace Go.Proofs.YtjhbccppihledaaGreatDoor
open Go.RowKit
set_option linter.unusedVariables false

theorem infoC : (Tryz.prog.info? 93).map (·.size) = some 3 := by kernel_rfl

set_option maxHeartbeats 1000000 in
theorem toCm2 (a c : Int) (u : Option Addr) (len cap : Nat) (S : Nat → ByteArray) (w : World) (h : IsStrs w u len cap S) (hl : len ≤ 1048576) :
    Calls Tryz.prog 66 #[.agg #[.int .i64 a, .int .i64 c, .slice u len cap]] w fun e w' => ∃ g, e = .returned (.agg #[.int .i64 a, .int .i64 c, .slice (some ⟨g, 0, none⟩) len len]) ∧ IsStrs w' (some ⟨g, 0, none⟩) len len S ∧ Below w.heap.size w w' ∧ w.heap.size ≤ g := by
  go_enter Tryz.func66, Tryz.ntmps66
  go_wp2_with fail
  obtain ⟨W3, hW3⟩ : ∃ W3, W3 = ((w.alloc (.cells #[.int .i64 a, .int .i64 c, .slice u len cap] 91)).alloc (.cells #[.int .i64 0, .int .i64 0, .slice none 0 0] 93)).alloc (.cells #[.int .i64 a, .int .i64 c, .slice none 0 0] 93) := ⟨_, rfl⟩
  rw [← hW3]
  have hB3 : Below w.heap.size w W3 := by rw [hW3]; exact (((Below.refl _ _).alloc (Nat.le_refl _) _).alloc (by simp) _).alloc (by simp; omega) _
  have g2 : W3.heap[w.heap.size + 1]? = some (.cells #[.int .i64 0, .int .i64 0, .slice none 0 0] 93) := by
    rw [hW3, Below.heap_alloc _ _ _ (by simp)]
    have := heap_alloc_new (w.alloc (.cells #[.int .i64 a, .int .i64 c, .slice u len cap] 91)) (.cells #[.int .i64 0, .int .i64 0, .slice none 0 0] 93)
    simpa using this
  have g3 : W3.heap[w.heap.size + 2]? = some (.cells #[.int .i64 a, .int .i64 c, .slice none 0 0] 93) := by
    rw [hW3]
    have := heap_alloc_new ((w.alloc (.cells #[.int .i64 a, .int .i64 c, .slice u len cap] 91)).alloc (.cells #[.int .i64 0, .int .i64 0, .slice none 0 0] 93)) (.cells #[.int .i64 a, .int .i64 c, .slice none 0 0] 93)
    simpa using this
  clear hW3
  refine (toStrs_any u len cap S _ (h.below hB3) hl).mono ?_
  rintro e w1 ⟨g, rfl, hI, hB, hge⟩
  have HG2 : Hid (w.heap.size + 2 < g) := Nat.lt_of_lt_of_le (lt_of_block g3) hge
  clear hge
  have h2 : w1.heap[w.heap.size + 1]? = some (.cells #[.int .i64 0, .int .i64 0, .slice none 0 0] 93) := (hB.block _ (lt_of_block g2)).trans g2
  have h3 : w1.heap[w.heap.size + 2]? = some (.cells #[.int .i64 a, .int .i64 c, .slice none 0 0] 93) := (hB.block _ (lt_of_block g3)).trans g3
  have c0 : w1.cell? ⟨w.heap.size + 2, 0, none⟩ = some (.int .i64 a) := cellN h3
  have cf0 : w1.frozen? ⟨w.heap.size + 2, 0, none⟩ = false := frozN h3
  have c1 : w1.cell? ⟨w.heap.size + 2, 1, none⟩ = some (.int .i64 c) := cellN h3
  have cf1 : w1.frozen? ⟨w.heap.size + 2, 1, none⟩ = false := frozN h3
  have c2 : w1.cell? ⟨w.heap.size + 2, 2, none⟩ = some (.slice none 0 0) := cellN h3
  have cf2 : w1.frozen? ⟨w.heap.size + 2, 2, none⟩ = false := frozN h3
  have HB1 : Hid (Below w.heap.size w w1) := hB3.trans (hB.mono hB3.size)
  have HI : Hid (_) := hI
  have H2 : Hid ((w1.setCell ⟨w.heap.size + 1 + 1, 2, none⟩ (.slice (some ⟨g, 0, none⟩) len len)).heap[w.heap.size + 1]? = some (.cells #[.int .i64 0, .int .i64 0, .slice none 0 0] 93)) := by
    show _ = _
    rw [Below.heap_setCell _ _ _ _ (by simp)]
    exact h2
  obtain ⟨q, hq⟩ : ∃ q, q = #[Value.int .i64 a, .int .i64 c, .slice (some ⟨g, 0, none⟩) len len] := ⟨_, rfl⟩
  have hi6 : (Tryz.prog.info? 93).map (·.size) = some q.size := by rw [hq]; exact infoC
  have ho6 : (#[Value.int .i64 0, .int .i64 0, .slice none 0 0] : Array Value).size = q.size := by rw [hq]; rfl
  have h16 : q.all (·.oneCell') = true := by rw [hq]; simp [Value.oneCell']
  have HQ : Hid (q = #[Value.int .i64 a, .int .i64 c, .slice (some ⟨g, 0, none⟩) len len]) := hq
  clear h2 h3 g2 g3 hB hB3 hI h
  go_wp2_with (refine wpList_store_row rfl 93 _ _ rfl (w.heap.size + 1) q rfl (congrArg Value.agg hq.symm) 93 _ H2.out hi6 ho6 h16 ?_)
  refine bodyPost_ret (v := .agg q) (results_cell_row rfl _ _ (w.heap.size + 1) 93 _ _ _ rfl (setRow_heap _ _ _ _ _ _ H2.out) Tryz.underlying93 rfl hi6) rfl ⟨g, ret_val (by rw [HQ.out]), ?_, ?_, Nat.le_of_lt (Nat.lt_trans (by omega) HG2.out)⟩
  · obtain ⟨i1, i2, i3⟩ := HI.out
    refine ⟨i1, i2, fun hp => ?_⟩
    obtain ⟨b, off, e1, e2, e3⟩ := i3 hp
    simp only [Option.some.injEq, Addr.mk.injEq, and_true] at e1
    obtain ⟨rfl, rfl⟩ := e1
    have hg2 := HG2.out
    refine ⟨g, 0, rfl, by simpa using e2, fun i hi => ?_⟩
    rw [cell_setRow_other _ _ _ _ (by simp <;> omega), World.cell?_setCell_other _ _ _ _ (by simp <;> omega)]
    exact e3 i hi
  · exact below_setRow (HB1.out.setCell (p := ⟨w.heap.size + 1 + 1, 2, none⟩) (by show w.heap.size ≤ w.heap.size + 1 + 1; omega) _) (by omega) _


theorem infoNC : (Tryz.prog.info? 93).map (fun i => (i.zero, i.size, i.bytes)) = some (some (.agg #[.int .i64 0, .int .i64 0, .slice none 0 0]), 3, 40) := by kernel_rfl

theorem get_set3 (xs : List Value) (k j t : Nat) (v0 v1 v2 : Value) (hj : j < k) (ht : t < 3) :
    (((xs.set (k * 3) v0).set (k * 3 + 1) v1).set (k * 3 + 2) v2)[j * 3 + t]? = xs[j * 3 + t]? := by
  rw [List.getElem?_set_ne (by omega), List.getElem?_set_ne (by omega), List.getElem?_set_ne (by omega)]

/-- the copy of commitment d whose heads lie at block g -/
def Cm.at (d : Cm) (g : Nat) : Cm := { d with u := some ⟨g, 0, none⟩, cap := d.n }
theorem Cm.at_like (d : Cm) (g : Nat) : d.Like (d.at g) := ⟨rfl, rfl, rfl, rfl⟩

/-- the three cells of copy j are laid in xs -/
def Laid3 (xs : List Value) (D : Nat → Cm) (G : Nat → Nat) (j : Nat) : Prop :=
  xs[j * 3 + 0]? = some (.int .i64 (D j).a) ∧ xs[j * 3 + 1]? = some (.int .i64 (D j).c) ∧ xs[j * 3 + 2]? = some (.slice (some ⟨G j, 0, none⟩) (D j).n (D j).n)

set_option maxRecDepth 10000 in
set_option maxHeartbeats 2000000 in
theorem toCms_any (a : Option Addr) (len cap : Nat) (D : Nat → Cm) (w : World) (h : IsCms w a len cap D) (hl : len ≤ 1048576) (hn : ∀ i, i < len → (D i).n ≤ 1048576) :
    Calls Tryz.prog 36 #[.slice a len cap] w fun e w' => ∃ (g : Nat) (G : Nat → Nat), e = .returned (.slice (some ⟨g, 0, none⟩) len len) ∧ IsCms w' (some ⟨g, 0, none⟩) len len (fun i => (D i).at (G i)) ∧ Below w.heap.size w w' := by
  obtain ⟨hlc, hcm, hc⟩ := h
  obtain ⟨i0, hi, hz0, hz1, hz2⟩ := info_parts infoNC
  have hb2 : i0.bytes * len ≤ 281474976710656 := by rw [hz2]; omega
  have hb3 : len ≤ maxLen := by unfold maxLen; omega
  go_enter Tryz.func36, Tryz.ntmps36
  go_wp2_with (at_make; refine wpList_make_full _ rfl _ _ 49 rfl w.heap.size 93 i0 (.agg #[.int .i64 0, .int .i64 0, .slice none 0 0]) 3 Tryz.underlying49 hi hz0 hz1 .i64 .i64 _ _ len rfl rfl rfl rfl hb2 hb3 (Nat.le_refl _) ?_; intro w1 hown hgrow)
  have hB1 : Below w.heap.size w w1 := (Below.refl _ w).grown hgrow (Nat.le_refl _) (fun k hk => by cases hk)
  clear hgrow
  go_loopw [4] (fun i wr => ∃ (k : Nat) (xs : List Value) (G : Nat → Nat), k ≤ len ∧ i = .int .i64 k ∧ wr.ownsRow w.heap.size 93 3 (.slice (some ⟨w.heap.size, 0, none⟩) len len) len xs ∧ Hid (∀ j, j < k → Laid3 xs D G j ∧ w.heap.size < G j ∧ IsStrs wr (some ⟨G j, 0, none⟩) (D j).n (D j).n (D j).S) ∧ Below w.heap.size w wr)
    (fun i _ => len - (intOf i).toNat)
  case atStart => exact ⟨0, _, fun _ => 0, Nat.zero_le _, rfl, hown, fun j hj => absurd hj (Nat.not_lt_zero _), hB1⟩
  case round =>
    obtain ⟨k, xs, G, hk, rfl, how, HA, hB⟩ := hrel
    by_cases hlt : k < len
    · obtain ⟨b, off, rfl, hbs, hcell⟩ := hc (by omega)
      have hnk := hn k hlt
      obtain ⟨c0, c1, c2, ci⟩ : CmAt wr b (off + k * 3) (D k) := by
        have := hcell k hlt
        refine ⟨(hB.cell (p := ⟨b, _, none⟩) hbs).trans this.c0, (hB.cell (p := ⟨b, _, none⟩) hbs).trans this.c1, (hB.cell (p := ⟨b, _, none⟩) hbs).trans this.c2, this.i.below hB⟩
      have hltI : (k : Int) < (len : Int) := by omega
      have hws : w.heap.size < wr.heap.size := own_live how
      have HI : Hid (IsStrs wr (D k).u (D k).n (D k).cap (D k).S) := ci
      have HO : Hid (_) := how
      clear hcell hc ci hn how hown hB1
      go_wp2_with fail
      refine (toCm2 _ _ _ _ _ (D k).S _ HI.out hnk).mono ?_
      rintro e w2 ⟨g2, rfl, i2, hB2, hg2⟩
      have hxl : xs.length = len * 3 := HO.out.1
      have f0 := (ownsRow_below HO.out hB2).frozenAt (k * 3)
      obtain ⟨z0, y0⟩ := own_some (ownsRow_below HO.out hB2) (k * 3) (by omega)
      have f1 := (ownsRow_below HO.out hB2).frozenAt (k * 3 + 1)
      obtain ⟨z1, y1⟩ := own_some (ownsRow_below HO.out hB2) (k * 3 + 1) (by omega)
      have f2 := (ownsRow_below HO.out hB2).frozenAt (k * 3 + 2)
      obtain ⟨z2, y2⟩ := own_some (ownsRow_below HO.out hB2) (k * 3 + 2) (by omega)
      have HB2 : Hid (Below wr.heap.size wr w2) := hB2
      have HI2 : Hid (IsStrs w2 (some ⟨g2, 0, none⟩) (D k).n (D k).n (D k).S) := i2
      have HG2 : Hid (w.heap.size < g2) := Nat.lt_of_lt_of_le hws hg2
      clear i2 hg2 c0 c1 c2
      go_wp2
      go_roundw
      case rel =>
        have hB2 := HB2.out
        refine ⟨k + 1, (((xs).set (k * 3) (.int .i64 (D k).a)).set (k * 3 + 1) (.int .i64 (D k).c)).set (k * 3 + 2) (.slice (some ⟨g2, 0, none⟩) (D k).n (D k).n), fun j => if j = k then g2 else G j, by omega, by go_num, ?_, ?_, ?_⟩
        · exact (((((((ownsRow_below HO.out hB2).stored _ _).1).stored _ _).1).stored _ _).1)
        · intro j hj
          have hne : ∀ j, w.heap.size < j → j ≠ w.heap.size := fun j h => by omega
          rcases Nat.lt_succ_iff_lt_or_eq.1 hj with h1 | rfl
          · obtain ⟨p1, p2, p3⟩ := HA.out j h1
            have e1 : (if j = k then g2 else G j) = G j := if_neg (by omega)
            refine ⟨?_, by show w.heap.size < (if j = k then g2 else G j); rw [e1]; exact p2, ?_⟩
            · unfold Laid3
              rw [get_set3 xs k j 0 _ _ _ h1 (by omega), get_set3 xs k j 1 _ _ _ h1 (by omega), get_set3 xs k j 2 _ _ _ h1 (by omega)]
              show _ ∧ _ ∧ _ = some (Value.slice (some ⟨if j = k then g2 else G j, 0, none⟩) _ _)
              rw [e1]
              exact p1
            · show IsStrs _ (some ⟨if j = k then g2 else G j, 0, none⟩) _ _ _
              rw [e1]
              exact (((p3.below hB2).setCell (hne _ p2)).setCell (hne _ p2)).setCell (hne _ p2)
          · have e1 : (if j = j then g2 else G j) = g2 := if_pos rfl
            refine ⟨?_, by show w.heap.size < (if j = j then g2 else G j); rw [e1]; exact HG2.out, ?_⟩
            · unfold Laid3
              refine ⟨?_, ?_, ?_⟩
              · rw [List.getElem?_set_ne (by omega), List.getElem?_set_ne (by omega), Nat.add_zero, List.getElem?_set_self (by omega)]
              · rw [List.getElem?_set_ne (by omega), List.getElem?_set_self (by simp; omega)]
              · rw [List.getElem?_set_self (by simp; omega)]
                simp
            · show IsStrs _ (some ⟨if j = j then g2 else G j, 0, none⟩) _ _ _
              rw [e1]
              have hn2 := hne _ HG2.out
              exact ((HI2.out.setCell hn2).setCell hn2).setCell hn2
        · exact ((((hB.trans (hB2.mono hB.size)).setCell (Nat.le_refl _) _).setCell (Nat.le_refl _) _).setCell (Nat.le_refl _) _)
      case measure => simp [intOf]; omega
    · have hke : k = len := by omega
      subst hke
      have hfin : IsCms wr (some ⟨w.heap.size, 0, none⟩) k k (fun i => (D i).at (G i)) := by
        refine ⟨Nat.le_refl _, by omega, fun hp => ?_⟩
        refine ⟨w.heap.size, 0, rfl, own_live how, fun j hj => ?_⟩
        obtain ⟨⟨g0, g1, g2⟩, _, q⟩ := HA.out j hj
        refine ⟨?_, ?_, ?_, q⟩
        · rw [Nat.zero_add, how.cellAt _ (by omega)]; exact g0
        · rw [Nat.zero_add, how.cellAt _ (by omega)]; exact g1
        · rw [Nat.zero_add, how.cellAt _ (by omega)]; exact g2
      clear how hown hB1 HA
      go_wp2
      go_ret
      exact ⟨_, G, rfl, hfin, hB⟩

set_option maxHeartbeats 1000000 in
theorem eqCm_same (a c : Int) (u u' : Option Addr) (len cap cap' : Nat) (S : Nat → ByteArray) (w : World) (h : IsStrs w u len cap S) (h' : IsStrs w u' len cap' S) :
    Calls Tryz.prog 68 #[.agg #[.int .i64 a, .int .i64 c, .slice u len cap], .agg #[.int .i64 a, .int .i64 c, .slice u' len cap']] w fun e w' => e = .returned (.bool true) ∧ Below w.heap.size w w' := by
  have HB : Hid (∀ o o', Below w.heap.size w ((w.alloc o).alloc o')) := fun o o' => ((Below.refl _ _).alloc (Nat.le_refl _) _).alloc (by simp) _
  have HI : Hid (∀ o o', IsStrs ((w.alloc o).alloc o') u len cap S) := fun o o' => h.below (HB.out o o')
  have HI' : Hid (∀ o o', IsStrs ((w.alloc o).alloc o') u' len cap' S) := fun o o' => h'.below (HB.out o o')
  have e1 : (a != a) = false := by simp
  have e2 : (c != c) = false := by simp
  clear h h'
  go_enter Tryz.func68, Tryz.ntmps68
  go_wp2_with fail
  refine (eqStringS_same _ _ _ _ _ S _ (HI.out _ _) (HI'.out _ _)).mono ?_
  rintro e w1 ⟨rfl, hB1⟩
  go_wp2
  go_ret
  exact ⟨rfl, (HB.out _ _).trans (hB1.mono (HB.out _ _).size)⟩

set_option maxHeartbeats 1000000 in
theorem eqCms_like (a a' : Option Addr) (len cap cap' : Nat) (D E : Nat → Cm) (w : World) (h : IsCms w a len cap D) (h' : IsCms w a' len cap' E) (hL : ∀ i, i < len → (D i).Like (E i)) :
    Calls Tryz.prog 38 #[.slice a len cap, .slice a' len cap'] w fun e w' => e = .returned (.bool true) ∧ Below w.heap.size w w' := by
  obtain ⟨hlc, hcm, hc⟩ := h
  obtain ⟨hlc', hcm', hc'⟩ := h'
  have hbn : ((len : Int) != (len : Int)) = false := by simp
  go_enter Tryz.func38, Tryz.ntmps38
  go_wp2
  go_loopw [5] (fun i wr => ∃ (k : Nat), k ≤ len ∧ i = .int .i64 k ∧ Below w.heap.size w wr) (fun i _ => len - (intOf i).toNat)
  case atStart => exact ⟨0, Nat.zero_le _, rfl, Below.refl _ _⟩
  case round =>
    obtain ⟨k, hk, rfl, hB⟩ := hrel
    by_cases hlt : k < len
    · obtain ⟨b, off, rfl, hbs, hcell⟩ := hc (by omega)
      obtain ⟨b', off', rfl, hbs', hcell'⟩ := hc' (by omega)
      have n1 := (hcell k hlt)
      have n2 := (hcell' k hlt)
      have m1 : Hid (CmAt wr b (off + k * 3) (D k)) := ⟨(hB.cell (p := ⟨b, _, none⟩) hbs).trans n1.c0, (hB.cell (p := ⟨b, _, none⟩) hbs).trans n1.c1, (hB.cell (p := ⟨b, _, none⟩) hbs).trans n1.c2, n1.i.below hB⟩
      have m2 : Hid (CmAt wr b' (off' + k * 3) (E k)) := ⟨(hB.cell (p := ⟨b', _, none⟩) hbs').trans n2.c0, (hB.cell (p := ⟨b', _, none⟩) hbs').trans n2.c1, (hB.cell (p := ⟨b', _, none⟩) hbs').trans n2.c2, n2.i.below hB⟩
      have hltI : (k : Int) < (len : Int) := by omega
      have hLk := hL k hlt
      clear n1 n2 hcell hcell' hc hc' hL
      obtain ⟨l1, l2, l6, l7⟩ := hLk
      have HL : Hid (∀ v : World, IsStrs v (D k).u (D k).n (D k).cap (D k).S → IsStrs v (E k).u (E k).n (E k).cap (E k).S → Calls Tryz.prog 68 #[.agg #[.int .i64 (D k).a, .int .i64 (D k).c, .slice (D k).u (D k).n (D k).cap], .agg #[.int .i64 (E k).a, .int .i64 (E k).c, .slice (E k).u (E k).n (E k).cap]] v fun e w' => e = .returned (.bool true) ∧ Below v.heap.size v w') := by
        intro v hv hv'
        rw [← l1, ← l2, ← l6]
        rw [← l6, ← l7] at hv'
        exact eqCm_same _ _ _ _ _ _ _ _ v hv hv'
      clear l1 l2 l6 l7
      have HK : Hid (∀ w', Below wr.heap.size wr w' → (w'.cell? ⟨b, off + k * 3, none⟩ = some (.int .i64 (D k).a) ∧ w'.cell? ⟨b, off + k * 3 + 1, none⟩ = some (.int .i64 (D k).c) ∧ w'.cell? ⟨b, off + k * 3 + 2, none⟩ = some (.slice (D k).u (D k).n (D k).cap) ∧ w'.cell? ⟨b', off' + k * 3, none⟩ = some (.int .i64 (E k).a) ∧ w'.cell? ⟨b', off' + k * 3 + 1, none⟩ = some (.int .i64 (E k).c) ∧ w'.cell? ⟨b', off' + k * 3 + 2, none⟩ = some (.slice (E k).u (E k).n (E k).cap))) := fun w' hB => by
        have n1 := m1.out.below hB
        have n2 := m2.out.below hB
        exact ⟨n1.c0, n1.c1, n1.c2, n2.c0, n2.c1, n2.c2⟩
      have HB : Hid (Below w.heap.size w wr) := hB
      clear hB
      go_wp2
      go_region_held3 (fun w' => w'.cell? ⟨b, off + k * 3, none⟩ = some (.int .i64 (D k).a) ∧ w'.cell? ⟨b, off + k * 3 + 1, none⟩ = some (.int .i64 (D k).c) ∧ w'.cell? ⟨b, off + k * 3 + 2, none⟩ = some (.slice (D k).u (D k).n (D k).cap) ∧ w'.cell? ⟨b', off' + k * 3, none⟩ = some (.int .i64 (E k).a) ∧ w'.cell? ⟨b', off' + k * 3 + 1, none⟩ = some (.int .i64 (E k).c) ∧ w'.cell? ⟨b', off' + k * 3 + 2, none⟩ = some (.slice (E k).u (E k).n (E k).cap)) (first | exact HK.out _ hBd | exact HK.out _ (Below.refl _ _).drew) ((go_at_call 68; refine (HL.out _ (m1.out.below (Below.refl _ _).drew).i (m2.out.below (Below.refl _ _).drew).i).mono ?_; rintro e w7 ⟨rfl, hB7⟩; have hBd : Below wr.heap.size wr w7 := ((Below.refl _ _).drew).trans hB7))
      have hB := HB.out
      go_wp2
      go_roundw
      case rel => exact ⟨k + 1, by omega, by go_num, hB.trans (hBd.mono hB.size)⟩
      case measure => simp [intOf]; omega
    · have hke : k = len := by omega
      subst hke
      go_wp2
      go_ret
      exact ⟨rfl, hB⟩
end Go.Proofs.YtjhbccppihledaaGreatDoor

namespace Go.Proofs.YtjhbccppihledaaGreatDoor
open Go.RowKit
set_option linter.unusedVariables false

/-- a commitment is right -/
def Cm.ok (d : Cm) : Bool := inB 1 9 d.a && (inB 1 1000000 d.c && idsB d.S d.n)
/-- commitments are right -/
def cmsB (D : Nat → Cm) (len : Nat) : Bool := decide (len ≤ 30) && allB (fun i => (D i).ok) len

set_option maxHeartbeats 2000000 in
theorem specCms_any (a : Option Addr) (len cap : Nat) (D : Nat → Cm) (w : World) (h : IsCms w a len cap D) (hF : CFine D len) :
    Calls Tryz.prog 65 #[.slice a len cap] w fun e w' => e = .returned (.bool (cmsB D len)) ∧ Below w.heap.size w w' := by
  obtain ⟨hlc, hcm, hc⟩ := h
  by_cases h30 : 30 < len
  · have hr : Hid (cmsB D len = false) := by
      show _ = _
      unfold cmsB
      rw [decide_eq_false (by omega)]; rfl
    have h30' : (30 : Int) < (len : Int) := by omega
    clear hc hF
    go_enter Tryz.func65, Tryz.ntmps65
    go_wp2
    go_ret
    exact ⟨ret_bool hr.out.symm, Below.refl _ _⟩
  have hle : len ≤ 30 := by omega
  have hleI : decide ((30 : Int) < (len : Int)) = false := by simp; omega
  go_enter Tryz.func65, Tryz.ntmps65
  go_wp2
  clear h30
  go_loopw [3] (fun i wr => ∃ (k : Nat), k ≤ len ∧ i = .int .i64 k ∧ Hid (allB (fun i => (D i).ok) k = true) ∧ Below w.heap.size w wr) (fun i _ => len - (intOf i).toNat)
  case atStart => exact ⟨0, Nat.zero_le _, rfl, rfl, Below.refl _ _⟩
  case round =>
    obtain ⟨k, hk, rfl, HR, hB⟩ := hrel
    by_cases hlt : k < len
    · obtain ⟨b, off, rfl, hbs, hcell⟩ := hc (by omega)
      have hltI : (k : Int) < (len : Int) := by omega
      have m1 : CmAt wr b (off + k * 3) (D k) := by
        have n1 := hcell k hlt
        exact ⟨(hB.cell (p := ⟨b, _, none⟩) hbs).trans n1.c0, (hB.cell (p := ⟨b, _, none⟩) hbs).trans n1.c1, (hB.cell (p := ⟨b, _, none⟩) hbs).trans n1.c2, n1.i.below hB⟩
      have hf := hF k hlt
      clear hcell hc hF
      have HB : Hid (Below w.heap.size w wr) := hB
      obtain ⟨c0, c1, c2, ci⟩ := m1
      have CI : Hid (IsStrs wr (D k).u (D k).n (D k).cap (D k).S) := ci
      have HF : Hid (_) := hf
      clear ci hf hB
      cases h1 : inB 1 9 (D k).a with
      | false =>
        have hr : Hid (cmsB D len = false) := by
          show _ = _
          unfold cmsB
          rw [allB_false (p := fun i => (D i).ok) hlt (by unfold Cm.ok; rw [h1]; simp)]; simp
        go_wp2_with (first | (go_at_call_of 69 ((D k).a); refine (in_any _ 1 9 false h1 _).mono ?_; rintro e w1 ⟨rfl, rfl⟩))
        go_ret
        exact ⟨ret_bool hr.out.symm, by first | exact HB.out.trans (hB2.mono HB.out.size) | exact HB.out⟩
      | true =>
        cases h2 : inB 1 1000000 (D k).c with
        | false =>
          have hr : Hid (cmsB D len = false) := by
            show _ = _
            unfold cmsB
            rw [allB_false (p := fun i => (D i).ok) hlt (by unfold Cm.ok; rw [h1, h2]; simp)]; simp
          go_wp2_with (first | (go_at_call_of 69 ((D k).a); refine (in_any _ 1 9 true h1 _).mono ?_; rintro e w1 ⟨rfl, rfl⟩) | (go_at_call_of 69 ((D k).c); refine (in_any _ 1 1000000 false h2 _).mono ?_; rintro e w1 ⟨rfl, rfl⟩))
          go_ret
          exact ⟨ret_bool hr.out.symm, by first | exact HB.out.trans (hB2.mono HB.out.size) | exact HB.out⟩
        | true =>
          cases h3 : idsB (D k).S (D k).n with
          | false =>
            have hr : Hid (cmsB D len = false) := by
              show _ = _
              unfold cmsB
              rw [allB_false (p := fun i => (D i).ok) hlt (by unfold Cm.ok; rw [h1, h2, h3]; simp)]; simp
            go_wp2_with (first | (go_at_call_of 69 ((D k).a); refine (in_any _ 1 9 true h1 _).mono ?_; rintro e w1 ⟨rfl, rfl⟩) | (go_at_call_of 69 ((D k).c); refine (in_any _ 1 1000000 true h2 _).mono ?_; rintro e w1 ⟨rfl, rfl⟩) | (go_at_call 71; refine (specIds_b _ _ _ (D k).S _ CI.out HF.out false h3).mono ?_; rintro e w1 ⟨rfl, hB2⟩))
            go_ret
            exact ⟨ret_bool hr.out.symm, by first | exact HB.out.trans (hB2.mono HB.out.size) | exact HB.out⟩
          | true =>
            have HR' : Hid (allB (fun i => (D i).ok) (k + 1) = true) := by
              show _ = _
              rw [allB_succ, HR.out]; unfold Cm.ok; rw [h1, h2, h3]; rfl
            clear HR
            go_wp2_with (first | (go_at_call_of 69 ((D k).a); refine (in_any _ 1 9 true h1 _).mono ?_; rintro e w1 ⟨rfl, rfl⟩) | (go_at_call_of 69 ((D k).c); refine (in_any _ 1 1000000 true h2 _).mono ?_; rintro e w1 ⟨rfl, rfl⟩) | (go_at_call 71; refine (specIds_b _ _ _ (D k).S _ CI.out HF.out true h3).mono ?_; rintro e w1 ⟨rfl, hB2⟩))
            go_roundw
            case rel => exact ⟨k + 1, by omega, by go_num, HR', HB.out.trans (hB2.mono HB.out.size)⟩
            case measure => simp [intOf]; omega
    · have hke : k = len := by omega
      subst hke
      have hr : Hid (cmsB D k = true) := by
        show _ = _
        unfold cmsB
        rw [HR.out, decide_eq_true hle]; rfl
      clear HR
      go_wp2
      go_ret
      exact ⟨ret_bool hr.out.symm, hB⟩

set_option maxHeartbeats 2000000 in
theorem implCms_any (a : Option Addr) (len cap : Nat) (D : Nat → Cm) (w : World) (h : IsCms w a len cap D) (hF : CFine D len) :
    Calls Tryz.prog 67 #[.slice a len cap] w fun e w' => e = .returned (.bool (cmsB D len)) ∧ Below w.heap.size w w' := by
  obtain ⟨hlc, hcm, hc⟩ := h
  by_cases h30 : 30 < len
  · have hr : Hid (cmsB D len = false) := by
      show _ = _
      unfold cmsB
      rw [decide_eq_false (by omega)]; rfl
    have h30' : (30 : Int) < (len : Int) := by omega
    clear hc hF
    go_enter Tryz.func67, Tryz.ntmps67
    go_wp2
    go_ret
    exact ⟨ret_bool hr.out.symm, Below.refl _ _⟩
  have hle : len ≤ 30 := by omega
  have hleI : decide ((30 : Int) < (len : Int)) = false := by simp; omega
  go_enter Tryz.func67, Tryz.ntmps67
  go_wp2
  clear h30
  go_loopw [10] (fun i wr => ∃ (k : Nat), k ≤ len ∧ i = .int .i64 k ∧ Hid (allB (fun i => (D i).ok) k = true) ∧ Below w.heap.size w wr) (fun i _ => len - (intOf i).toNat)
  case atStart => exact ⟨0, Nat.zero_le _, rfl, rfl, Below.refl _ _⟩
  case round =>
    obtain ⟨k, hk, rfl, HR, hB⟩ := hrel
    by_cases hlt : k < len
    · obtain ⟨b, off, rfl, hbs, hcell⟩ := hc (by omega)
      have hltI : (k : Int) < (len : Int) := by omega
      have m1 : CmAt wr b (off + k * 3) (D k) := by
        have n1 := hcell k hlt
        exact ⟨(hB.cell (p := ⟨b, _, none⟩) hbs).trans n1.c0, (hB.cell (p := ⟨b, _, none⟩) hbs).trans n1.c1, (hB.cell (p := ⟨b, _, none⟩) hbs).trans n1.c2, n1.i.below hB⟩
      have hf := hF k hlt
      clear hcell hc hF
      have HB : Hid (Below w.heap.size w (wr.alloc (.cells #[.int .i64 (D k).a, .int .i64 (D k).c, .slice (D k).u (D k).n (D k).cap] 93))) := hB.alloc hB.size _
      obtain ⟨c0, c1, c2, ci⟩ := m1
      have CI : Hid (IsStrs (wr.alloc (.cells #[.int .i64 (D k).a, .int .i64 (D k).c, .slice (D k).u (D k).n (D k).cap] 93)) (D k).u (D k).n (D k).cap (D k).S) := ci.below ((Below.refl _ _).alloc (Nat.le_refl _) _)
      have HF : Hid (_) := hf
      clear ci hf hB
      cases h1 : inB 1 9 (D k).a with
      | false =>
        have hr : Hid (cmsB D len = false) := by
          show _ = _
          unfold cmsB
          rw [allB_false (p := fun i => (D i).ok) hlt (by unfold Cm.ok; rw [h1]; simp)]; simp
        go_wp2_with (first | (go_at_call 85; refine (author_any _ false h1 _).mono ?_; rintro e w1 ⟨rfl, rfl⟩))
        go_ret
        exact ⟨ret_bool hr.out.symm, by first | exact HB.out.trans (hB2.mono HB.out.size) | exact HB.out⟩
      | true =>
        cases h2 : inB 1 1000000 (D k).c with
        | false =>
          have hr : Hid (cmsB D len = false) := by
            show _ = _
            unfold cmsB
            rw [allB_false (p := fun i => (D i).ok) hlt (by unfold Cm.ok; rw [h1, h2]; simp)]; simp
          go_wp2_with (first | (go_at_call 85; refine (author_any _ true h1 _).mono ?_; rintro e w1 ⟨rfl, rfl⟩) | (go_at_call 86; refine (seq_any _ false h2 _).mono ?_; rintro e w1 ⟨rfl, rfl⟩))
          go_ret
          exact ⟨ret_bool hr.out.symm, by first | exact HB.out.trans (hB2.mono HB.out.size) | exact HB.out⟩
        | true =>
          cases h3 : idsB (D k).S (D k).n with
          | false =>
            have hr : Hid (cmsB D len = false) := by
              show _ = _
              unfold cmsB
              rw [allB_false (p := fun i => (D i).ok) hlt (by unfold Cm.ok; rw [h1, h2, h3]; simp)]; simp
            go_wp2_with (first | (go_at_call 85; refine (author_any _ true h1 _).mono ?_; rintro e w1 ⟨rfl, rfl⟩) | (go_at_call 86; refine (seq_any _ true h2 _).mono ?_; rintro e w1 ⟨rfl, rfl⟩) | (go_at_call 87; refine (implIds_b _ _ _ (D k).S _ CI.out HF.out false h3).mono ?_; rintro e w1 ⟨rfl, hB2⟩))
            go_ret
            exact ⟨ret_bool hr.out.symm, by first | exact HB.out.trans (hB2.mono HB.out.size) | exact HB.out⟩
          | true =>
            have HR' : Hid (allB (fun i => (D i).ok) (k + 1) = true) := by
              show _ = _
              rw [allB_succ, HR.out]; unfold Cm.ok; rw [h1, h2, h3]; rfl
            clear HR
            go_wp2_with (first | (go_at_call 85; refine (author_any _ true h1 _).mono ?_; rintro e w1 ⟨rfl, rfl⟩) | (go_at_call 86; refine (seq_any _ true h2 _).mono ?_; rintro e w1 ⟨rfl, rfl⟩) | (go_at_call 87; refine (implIds_b _ _ _ (D k).S _ CI.out HF.out true h3).mono ?_; rintro e w1 ⟨rfl, hB2⟩))
            go_roundw
            case rel => exact ⟨k + 1, by omega, by go_num, HR', HB.out.trans (hB2.mono HB.out.size)⟩
            case measure => simp [intOf]; omega
    · have hke : k = len := by omega
      subst hke
      have hr : Hid (cmsB D k = true) := by
        show _ = _
        unfold cmsB
        rw [HR.out, decide_eq_true hle]; rfl
      clear HR
      go_wp2
      go_ret
      exact ⟨ret_bool hr.out.symm, hB⟩

end Go.Proofs.YtjhbccppihledaaGreatDoor

namespace Go.Proofs.YtjhbccppihledaaGreatDoor
open Go.RowKit
set_option linter.unusedVariables false

/-- a row of len commitments at block g that can be written, their heads at blocks G i; none of these blocks is below base -/
def COwn (w : World) (base g len : Nat) (G n : Nat → Nat) : Prop :=
  base ≤ g ∧ ∃ ys, w.ownsRow 0 93 3 (.slice (some ⟨g, 0, none⟩) len len) len ys ∧ ∀ i, i < len → ys[i * 3 + 2]? = some (.slice (some ⟨G i, 0, none⟩) (n i) (n i)) ∧ Rw w (G i) (n i) ∧ base ≤ G i

set_option maxHeartbeats 1000000 in
theorem toCm_own (a c : Int) (u : Option Addr) (len cap : Nat) (S : Nat → ByteArray) (w : World) (h : IsStrs w u len cap S) (hl : len ≤ 1048576) :
    Calls Tryz.prog 66 #[.agg #[.int .i64 a, .int .i64 c, .slice u len cap]] w fun e w' => ∃ g, e = .returned (.agg #[.int .i64 a, .int .i64 c, .slice (some ⟨g, 0, none⟩) len len]) ∧ IsStrs w' (some ⟨g, 0, none⟩) len len S ∧ Below w.heap.size w w' ∧ w.heap.size ≤ g ∧ Rw w' g len := by
  go_enter Tryz.func66, Tryz.ntmps66
  go_wp2_with fail
  obtain ⟨W3, hW3⟩ : ∃ W3, W3 = ((w.alloc (.cells #[.int .i64 a, .int .i64 c, .slice u len cap] 91)).alloc (.cells #[.int .i64 0, .int .i64 0, .slice none 0 0] 93)).alloc (.cells #[.int .i64 a, .int .i64 c, .slice none 0 0] 93) := ⟨_, rfl⟩
  rw [← hW3]
  have hB3 : Below w.heap.size w W3 := by rw [hW3]; exact (((Below.refl _ _).alloc (Nat.le_refl _) _).alloc (by simp) _).alloc (by simp; omega) _
  have g2 : W3.heap[w.heap.size + 1]? = some (.cells #[.int .i64 0, .int .i64 0, .slice none 0 0] 93) := by
    rw [hW3, Below.heap_alloc _ _ _ (by simp)]
    have := heap_alloc_new (w.alloc (.cells #[.int .i64 a, .int .i64 c, .slice u len cap] 91)) (.cells #[.int .i64 0, .int .i64 0, .slice none 0 0] 93)
    simpa using this
  have g3 : W3.heap[w.heap.size + 2]? = some (.cells #[.int .i64 a, .int .i64 c, .slice none 0 0] 93) := by
    rw [hW3]
    have := heap_alloc_new ((w.alloc (.cells #[.int .i64 a, .int .i64 c, .slice u len cap] 91)).alloc (.cells #[.int .i64 0, .int .i64 0, .slice none 0 0] 93)) (.cells #[.int .i64 a, .int .i64 c, .slice none 0 0] 93)
    simpa using this
  clear hW3
  refine (toStrs_own u len cap S _ (h.below hB3) hl).mono ?_
  rintro e w1 ⟨g, rfl, hI, hB, hge, hrw⟩
  have HRW : Hid (Rw w1 g len) := hrw
  clear hrw
  have HG2 : Hid (w.heap.size + 2 < g) := Nat.lt_of_lt_of_le (lt_of_block g3) hge
  clear hge
  have h2 : w1.heap[w.heap.size + 1]? = some (.cells #[.int .i64 0, .int .i64 0, .slice none 0 0] 93) := (hB.block _ (lt_of_block g2)).trans g2
  have h3 : w1.heap[w.heap.size + 2]? = some (.cells #[.int .i64 a, .int .i64 c, .slice none 0 0] 93) := (hB.block _ (lt_of_block g3)).trans g3
  have c0 : w1.cell? ⟨w.heap.size + 2, 0, none⟩ = some (.int .i64 a) := cellN h3
  have cf0 : w1.frozen? ⟨w.heap.size + 2, 0, none⟩ = false := frozN h3
  have c1 : w1.cell? ⟨w.heap.size + 2, 1, none⟩ = some (.int .i64 c) := cellN h3
  have cf1 : w1.frozen? ⟨w.heap.size + 2, 1, none⟩ = false := frozN h3
  have c2 : w1.cell? ⟨w.heap.size + 2, 2, none⟩ = some (.slice none 0 0) := cellN h3
  have cf2 : w1.frozen? ⟨w.heap.size + 2, 2, none⟩ = false := frozN h3
  have HB1 : Hid (Below w.heap.size w w1) := hB3.trans (hB.mono hB3.size)
  have HI : Hid (_) := hI
  have H2 : Hid ((w1.setCell ⟨w.heap.size + 1 + 1, 2, none⟩ (.slice (some ⟨g, 0, none⟩) len len)).heap[w.heap.size + 1]? = some (.cells #[.int .i64 0, .int .i64 0, .slice none 0 0] 93)) := by
    show _ = _
    rw [Below.heap_setCell _ _ _ _ (by simp)]
    exact h2
  obtain ⟨q, hq⟩ : ∃ q, q = #[Value.int .i64 a, .int .i64 c, .slice (some ⟨g, 0, none⟩) len len] := ⟨_, rfl⟩
  have hi6 : (Tryz.prog.info? 93).map (·.size) = some q.size := by rw [hq]; exact infoC
  have ho6 : (#[Value.int .i64 0, .int .i64 0, .slice none 0 0] : Array Value).size = q.size := by rw [hq]; rfl
  have h16 : q.all (·.oneCell') = true := by rw [hq]; simp [Value.oneCell']
  have HQ : Hid (q = #[Value.int .i64 a, .int .i64 c, .slice (some ⟨g, 0, none⟩) len len]) := hq
  clear h2 h3 g2 g3 hB hB3 hI h
  go_wp2_with (refine wpList_store_row rfl 93 _ _ rfl (w.heap.size + 1) q rfl (congrArg Value.agg hq.symm) 93 _ H2.out hi6 ho6 h16 ?_)
  refine bodyPost_ret (v := .agg q) (results_cell_row rfl _ _ (w.heap.size + 1) 93 _ _ _ rfl (setRow_heap _ _ _ _ _ _ H2.out) Tryz.underlying93 rfl hi6) rfl ⟨g, ret_val (by rw [HQ.out]), ?_, ?_, Nat.le_of_lt (Nat.lt_trans (by omega) HG2.out), HRW.out.kept (by have := HG2.out; rw [setRow_other _ _ _ _ (by omega), Below.heap_setCell _ _ _ _ (by simp; omega)])⟩
  · obtain ⟨i1, i2, i3⟩ := HI.out
    refine ⟨i1, i2, fun hp => ?_⟩
    obtain ⟨b, off, e1, e2, e3⟩ := i3 hp
    simp only [Option.some.injEq, Addr.mk.injEq, and_true] at e1
    obtain ⟨rfl, rfl⟩ := e1
    have hg2 := HG2.out
    refine ⟨g, 0, rfl, by simpa using e2, fun i hi => ?_⟩
    rw [cell_setRow_other _ _ _ _ (by simp <;> omega), World.cell?_setCell_other _ _ _ _ (by simp <;> omega)]
    exact e3 i hi
  · exact below_setRow (HB1.out.setCell (p := ⟨w.heap.size + 1 + 1, 2, none⟩) (by show w.heap.size ≤ w.heap.size + 1 + 1; omega) _) (by omega) _

set_option maxRecDepth 10000 in
set_option maxHeartbeats 2000000 in
theorem toCms_own (a : Option Addr) (len cap : Nat) (D : Nat → Cm) (w : World) (h : IsCms w a len cap D) (hl : len ≤ 1048576) (hn : ∀ i, i < len → (D i).n ≤ 1048576) :
    Calls Tryz.prog 36 #[.slice a len cap] w fun e w' => ∃ (g : Nat) (G : Nat → Nat), e = .returned (.slice (some ⟨g, 0, none⟩) len len) ∧ IsCms w' (some ⟨g, 0, none⟩) len len (fun i => (D i).at (G i)) ∧ Below w.heap.size w w' ∧ COwn w' w.heap.size g len G (fun i => (D i).n) := by
  obtain ⟨hlc, hcm, hc⟩ := h
  obtain ⟨i0, hi, hz0, hz1, hz2⟩ := info_parts infoNC
  have hb2 : i0.bytes * len ≤ 281474976710656 := by rw [hz2]; omega
  have hb3 : len ≤ maxLen := by unfold maxLen; omega
  go_enter Tryz.func36, Tryz.ntmps36
  go_wp2_with (at_make; refine wpList_make_full _ rfl _ _ 49 rfl w.heap.size 93 i0 (.agg #[.int .i64 0, .int .i64 0, .slice none 0 0]) 3 Tryz.underlying49 hi hz0 hz1 .i64 .i64 _ _ len rfl rfl rfl rfl hb2 hb3 (Nat.le_refl _) ?_; intro w1 hown hgrow)
  have hB1 : Below w.heap.size w w1 := (Below.refl _ w).grown hgrow (Nat.le_refl _) (fun k hk => by cases hk)
  clear hgrow
  go_loopw [4] (fun i wr => ∃ (k : Nat) (xs : List Value) (G : Nat → Nat), k ≤ len ∧ i = .int .i64 k ∧ wr.ownsRow w.heap.size 93 3 (.slice (some ⟨w.heap.size, 0, none⟩) len len) len xs ∧ Hid (∀ j, j < k → Laid3 xs D G j ∧ w.heap.size < G j ∧ IsStrs wr (some ⟨G j, 0, none⟩) (D j).n (D j).n (D j).S ∧ Rw wr (G j) (D j).n) ∧ Below w.heap.size w wr)
    (fun i _ => len - (intOf i).toNat)
  case atStart => exact ⟨0, _, fun _ => 0, Nat.zero_le _, rfl, hown, fun j hj => absurd hj (Nat.not_lt_zero _), hB1⟩
  case round =>
    obtain ⟨k, xs, G, hk, rfl, how, HA, hB⟩ := hrel
    by_cases hlt : k < len
    · obtain ⟨b, off, rfl, hbs, hcell⟩ := hc (by omega)
      have hnk := hn k hlt
      obtain ⟨c0, c1, c2, ci⟩ : CmAt wr b (off + k * 3) (D k) := by
        have := hcell k hlt
        refine ⟨(hB.cell (p := ⟨b, _, none⟩) hbs).trans this.c0, (hB.cell (p := ⟨b, _, none⟩) hbs).trans this.c1, (hB.cell (p := ⟨b, _, none⟩) hbs).trans this.c2, this.i.below hB⟩
      have hltI : (k : Int) < (len : Int) := by omega
      have hws : w.heap.size < wr.heap.size := own_live how
      have HI : Hid (IsStrs wr (D k).u (D k).n (D k).cap (D k).S) := ci
      have HO : Hid (_) := how
      clear hcell hc ci hn how hown hB1
      go_wp2_with fail
      refine (toCm_own _ _ _ _ _ (D k).S _ HI.out hnk).mono ?_
      rintro e w2 ⟨g2, rfl, i2, hB2, hg2, hrw2⟩
      have HRW2 : Hid (Rw w2 g2 (D k).n) := hrw2
      clear hrw2
      have hxl : xs.length = len * 3 := HO.out.1
      have f0 := (ownsRow_below HO.out hB2).frozenAt (k * 3)
      obtain ⟨z0, y0⟩ := own_some (ownsRow_below HO.out hB2) (k * 3) (by omega)
      have f1 := (ownsRow_below HO.out hB2).frozenAt (k * 3 + 1)
      obtain ⟨z1, y1⟩ := own_some (ownsRow_below HO.out hB2) (k * 3 + 1) (by omega)
      have f2 := (ownsRow_below HO.out hB2).frozenAt (k * 3 + 2)
      obtain ⟨z2, y2⟩ := own_some (ownsRow_below HO.out hB2) (k * 3 + 2) (by omega)
      have HB2 : Hid (Below wr.heap.size wr w2) := hB2
      have HI2 : Hid (IsStrs w2 (some ⟨g2, 0, none⟩) (D k).n (D k).n (D k).S) := i2
      have HG2 : Hid (w.heap.size < g2) := Nat.lt_of_lt_of_le hws hg2
      clear i2 hg2 c0 c1 c2
      go_wp2
      go_roundw
      case rel =>
        have hB2 := HB2.out
        refine ⟨k + 1, (((xs).set (k * 3) (.int .i64 (D k).a)).set (k * 3 + 1) (.int .i64 (D k).c)).set (k * 3 + 2) (.slice (some ⟨g2, 0, none⟩) (D k).n (D k).n), fun j => if j = k then g2 else G j, by omega, by go_num, ?_, ?_, ?_⟩
        · exact (((((((ownsRow_below HO.out hB2).stored _ _).1).stored _ _).1).stored _ _).1)
        · intro j hj
          have hne : ∀ j, w.heap.size < j → j ≠ w.heap.size := fun j h => by omega
          rcases Nat.lt_succ_iff_lt_or_eq.1 hj with h1 | rfl
          · obtain ⟨p1, p2, p3, p4⟩ := HA.out j h1
            have e1 : (if j = k then g2 else G j) = G j := if_neg (by omega)
            refine ⟨?_, by show w.heap.size < (if j = k then g2 else G j); rw [e1]; exact p2, ?_, ?_⟩
            · unfold Laid3
              rw [get_set3 xs k j 0 _ _ _ h1 (by omega), get_set3 xs k j 1 _ _ _ h1 (by omega), get_set3 xs k j 2 _ _ _ h1 (by omega)]
              show _ ∧ _ ∧ _ = some (Value.slice (some ⟨if j = k then g2 else G j, 0, none⟩) _ _)
              rw [e1]
              exact p1
            · show IsStrs _ (some ⟨if j = k then g2 else G j, 0, none⟩) _ _ _
              rw [e1]
              exact (((p3.below hB2).setCell (hne _ p2)).setCell (hne _ p2)).setCell (hne _ p2)
            · show Rw _ (if j = k then g2 else G j) _
              rw [e1]
              exact (((p4.below hB2).setCell (hne _ p2)).setCell (hne _ p2)).setCell (hne _ p2)
          · have e1 : (if j = j then g2 else G j) = g2 := if_pos rfl
            refine ⟨?_, by show w.heap.size < (if j = j then g2 else G j); rw [e1]; exact HG2.out, ?_, ?_⟩
            · unfold Laid3
              refine ⟨?_, ?_, ?_⟩
              · rw [List.getElem?_set_ne (by omega), List.getElem?_set_ne (by omega), Nat.add_zero, List.getElem?_set_self (by omega)]
              · rw [List.getElem?_set_ne (by omega), List.getElem?_set_self (by simp; omega)]
              · rw [List.getElem?_set_self (by simp; omega)]
                simp
            · show IsStrs _ (some ⟨if j = j then g2 else G j, 0, none⟩) _ _ _
              rw [e1]
              have hn2 := hne _ HG2.out
              exact ((HI2.out.setCell hn2).setCell hn2).setCell hn2
            · show Rw _ (if j = j then g2 else G j) _
              rw [e1]
              have hn2 := hne _ HG2.out
              exact ((HRW2.out.setCell hn2).setCell hn2).setCell hn2
        · exact ((((hB.trans (hB2.mono hB.size)).setCell (Nat.le_refl _) _).setCell (Nat.le_refl _) _).setCell (Nat.le_refl _) _)
      case measure => simp [intOf]; omega
    · have hke : k = len := by omega
      subst hke
      have hfin : IsCms wr (some ⟨w.heap.size, 0, none⟩) k k (fun i => (D i).at (G i)) := by
        refine ⟨Nat.le_refl _, by omega, fun hp => ?_⟩
        refine ⟨w.heap.size, 0, rfl, own_live how, fun j hj => ?_⟩
        obtain ⟨⟨g0, g1, g2⟩, _, q, _⟩ := HA.out j hj
        refine ⟨?_, ?_, ?_, q⟩
        · rw [Nat.zero_add, how.cellAt _ (by omega)]; exact g0
        · rw [Nat.zero_add, how.cellAt _ (by omega)]; exact g1
        · rw [Nat.zero_add, how.cellAt _ (by omega)]; exact g2
      have HNO : Hid (COwn wr w.heap.size w.heap.size k G (fun i => (D i).n)) := ⟨Nat.le_refl _, xs, ownsRow_zero how, fun j hj => ⟨(HA.out j hj).1.2.2, (HA.out j hj).2.2.2, Nat.le_of_lt (HA.out j hj).2.1⟩⟩
      clear how hown hB1 HA
      go_wp2
      go_ret
      exact ⟨_, G, rfl, hfin, hB, HNO.out⟩

theorem COwn.below {w w' : World} {base g len : Nat} {G n : Nat → Nat} (h : COwn w base g len G n) (hB : Below w.heap.size w w') : COwn w' base g len G n := by
  obtain ⟨hb, ys, ho, hr⟩ := h
  exact ⟨hb, ys, ownsRow_below ho hB, fun i hi => ⟨(hr i hi).1, (hr i hi).2.1.below hB, (hr i hi).2.2⟩⟩
theorem COwn.top {w : World} {base g len : Nat} {G n : Nat → Nat} (h : COwn w base g len G n) : g < w.heap.size ∧ ∀ i, i < len → G i < w.heap.size := by
  obtain ⟨_, ys, ho, hr⟩ := h
  exact ⟨own_live ho, fun i hi => (hr i hi).2.1.lt⟩
theorem COwn.kept {p : Nat → Prop} {w w' : World} {base g len : Nat} {G n : Nat → Nat} (h : COwn w base g len G n) (hK : Kept p w w') (hp : ∀ b, base ≤ b → p b) : COwn w' base g len G n := by
  obtain ⟨hb, ys, ho, hr⟩ := h
  refine ⟨hb, ys, ?_, fun i hi => ⟨(hr i hi).1, (hr i hi).2.1.kept (hK.block _ (hr i hi).2.1.lt (hp _ (hr i hi).2.2)), (hr i hi).2.2⟩⟩
  obtain ⟨h1, h2⟩ := ho
  refine ⟨h1, ?_⟩
  rcases h2 with h2 | ⟨g', cap, cur, hv, hg, hh, r⟩
  · exact Or.inl h2
  · have hv' := hv
    simp only [Value.slice.injEq, Option.some.injEq, Addr.mk.injEq, and_true, true_and] at hv'
    obtain ⟨rfl, rfl⟩ := hv'
    exact Or.inr ⟨g, _, cur, hv, hg, (hK.block _ (lt_of_block hh) (hp _ hb)).trans hh, r⟩

theorem rowc_ne {w : World} {g g' n m : Nat} {ys : List Value} (h : w.ownsRow 0 93 3 (.slice (some ⟨g, 0, none⟩) n n) n ys) (h' : Rw w g' m) : g' ≠ g := by
  intro e
  subst e
  obtain ⟨xs, h'⟩ := h'
  rcases h.2 with ⟨h1, _⟩ | ⟨g1, c1, cur1, e1, _, hg1, _⟩
  · simp at h1
  rcases h'.2 with ⟨h2, _⟩ | ⟨g2, c2, cur2, e2, _, hg2, _⟩
  · simp at h2
  simp only [Value.slice.injEq, Option.some.injEq, Addr.mk.injEq, and_true, true_and] at e1 e2
  obtain ⟨rfl, rfl⟩ := e1
  obtain ⟨rfl, rfl⟩ := e2
  rw [hg1] at hg2
  simp at hg2

set_option maxHeartbeats 2000000 in
theorem markCms_any (g len base top k0 : Nat) (G n : Nat → Nat) (w : World) (h : COwn w base g len G n) (hl : len ≤ 1048576) (hn : ∀ i, i < len → n i ≤ 1048576) (hg : g < top) (hG : ∀ i, i < len → G i < top) (hk0 : 0 < k0) (hk1 : k0 ≤ 1099516870657) :
    Calls Tryz.prog 39 #[.slice (some ⟨g, 0, none⟩) len len, .int .i64 k0] w fun e w' => ∃ k : Nat, e = .returned (.int .i64 k) ∧ 0 < k ∧ k ≤ 2199033741314 ∧ Kept (fun b => b < base ∨ top ≤ b) w w' := by
  go_enter Tryz.func39, Tryz.ntmps39
  go_wp2
  go_loopw [1, 5] (fun x i wr => ∃ (j k : Nat), j ≤ len ∧ i = .int .i64 j ∧ x = .int .i64 k ∧ 0 < k ∧ k ≤ k0 + j * 1048578 ∧ COwn wr base g len G n ∧ Kept (fun b => b < base ∨ top ≤ b) w wr)
    (fun _ i _ => len - (intOf i).toNat)
  case atStart => exact ⟨0, k0, Nat.zero_le _, rfl, rfl, by omega, by omega, h, Kept.refl _ _⟩
  case round =>
    obtain ⟨j, k, hj, rfl, rfl, hk0', hk, hO, hK⟩ := hrel
    by_cases hlt : j < len
    · have hltI : (j : Int) < (len : Int) := by omega
      obtain ⟨hbg, ys, ho, hr⟩ := hO
      have hnj := hn j hlt
      obtain ⟨ry, rr, rb⟩ := hr j hlt
      have hyl : ys.length = len * 3 := ho.1
      have HO : Hid (_) := ho
      have HR : Hid (_) := hr
      have f0 := ho.frozenAt (j * 3)
      obtain ⟨z0, y0⟩ := own_some ho (j * 3) (by omega)
      have f1 := ho.frozenAt (j * 3 + 1)
      obtain ⟨z1, y1⟩ := own_some ho (j * 3 + 1) (by omega)
      have y2 : wr.cell? ⟨g, j * 3 + 2, none⟩ = some (.slice (some ⟨G j, 0, none⟩) (n j) (n j)) := by
        rw [ho.cellAt _ (by omega)]
        exact ry
      clear ho hr h
      go_wp2_with fail
      obtain ⟨wc, hwc⟩ : ∃ wc, wc = (wr.setCell ⟨g, j * 3, none⟩ (.int .i64 (k : Int))).setCell ⟨g, j * 3 + 1, none⟩ (.int .i64 ((k : Int) + 1)) := ⟨_, rfl⟩
      rw [← hwc]
      have hoc : wc.ownsRow 0 93 3 (.slice (some ⟨g, 0, none⟩) len len) len ((ys.set (j * 3) (.int .i64 (k : Int))).set (j * 3 + 1) (.int .i64 ((k : Int) + 1))) := by
        rw [hwc]
        exact (((World.ownsRow.stored HO.out _ _).1).stored _ _).1
      have hrc : ∀ i, i < len → Rw wc (G i) (n i) := fun i hi => by
        have hne := rowc_ne HO.out (HR.out i hi).2.1
        rw [hwc]
        exact ((HR.out i hi).2.1.setCell hne).setCell hne
      have hgb : ¬ (g < base ∨ top ≤ g) := by omega
      have hKc : Kept (fun b => b < base ∨ top ≤ b) w wc := by
        rw [hwc]
        exact kept_setCell (kept_setCell hK hgb _) hgb _
      clear hwc f0 y0 f1 y1 y2 hK
      obtain ⟨xs0, hx0⟩ := hrc j hlt
      refine (markStringS_int _ _ _ _ 0 xs0 (k + 2) (by omega) _ hx0 (by omega) (by omega)).mono ?_
      rintro e w3 ⟨rfl, ho3, hG3⟩
      have hneg := rowc_ne hoc (hrc j hlt)
      have ho4 := hoc.kept hG3 (.inr (by simp [Value.ownBlock]; exact fun e => hneg e.symm))
      have hr4 : ∀ i, i < len → Rw w3 (G i) (n i) := fun i hi => by
        by_cases he : G i = G j
        · have hnn := rw_same (show Rw wc (G j) (n i) by rw [← he]; exact hrc i hi) (hrc j hlt)
          rw [he, hnn]
          exact ⟨_, ho3⟩
        · exact (hrc i hi).kept (hG3.block _ (hrc i hi).lt (by simp [Value.ownBlock]; exact he))
      have hK4 : Kept (fun b => b < base ∨ top ≤ b) w w3 := hKc.trans (Kept.of_grown hG3 (fun b hb => by
        simp [Value.ownBlock] at hb
        have := hG j hlt
        omega))
      have HF : Hid (COwn w3 base g len G n ∧ Kept (fun b => b < base ∨ top ≤ b) w w3) := by
        refine ⟨⟨hbg, _, ho4, fun i hi => ⟨?_, hr4 i hi, (HR.out i hi).2.2⟩⟩, hK4⟩
        rw [List.getElem?_set_ne (by omega), List.getElem?_set_ne (by omega)]
        exact (HR.out i hi).1
      clear hoc hrc hKc hx0 ho3 hG3 ho4 hr4 hK4 HO HR ry rr
      go_wp2
      go_roundw
      case rel => exact ⟨j + 1, k + 2 + n j, by omega, by go_num, by go_num, by omega, by omega, HF.out.1, HF.out.2⟩
      case measure => simp [intOf]; omega
    · have hje : j = len := by omega
      subst hje
      go_wp2
      go_ret
      exact ⟨k, rfl, hk0', by omega, hK⟩
end Go.Proofs.YtjhbccppihledaaGreatDoor

namespace Go.Proofs.YtjhbccppihledaaGreatDoor
open Go.RowKit
set_option linter.unusedVariables false

set_option maxHeartbeats 1000000 in
theorem szNodeS_L (a : Option Addr) (len cap : Nat) (D : Nat → Nd) (w : World) (h : IsNds w a len cap D) (hF : Fine D len) (L : Int) (hL0 : 0 ≤ L) (hL1 : L ≤ 1048576) :
    Calls Tryz.prog 10 #[.slice a len cap, .int .i64 L] w fun e w' => ∃ r : Int, e = .returned (.int .i64 r) ∧ (r < 0 ∨ (0 ≤ r ∧ r ≤ L ∧ len ≤ 1048576 ∧ ∀ i, i < len → (D i).n ≤ 1048576)) ∧ Below w.heap.size w w' := by
  obtain ⟨hlc, hcm, hc⟩ := h
  by_cases hneg : L - (len : Int) < 0
  · go_enter Tryz.func10, Tryz.ntmps10
    go_wp2
    go_ret
    exact ⟨_, rfl, .inl (by decide), Below.refl _ _⟩
  have hlen : len ≤ 1048576 := by omega
  go_enter Tryz.func10, Tryz.ntmps10
  go_wp2
  go_loopw [1, 5] (fun x i wr => ∃ (k : Nat) (r : Int), k ≤ len ∧ i = .int .i64 k ∧ x = .int .i64 r ∧ 0 ≤ r ∧ r ≤ L ∧ Hid (∀ j, j < k → (D j).n ≤ 1048576) ∧ Below w.heap.size w wr) (fun _ i _ => len - (intOf i).toNat)
  case atStart => exact ⟨0, _, Nat.zero_le _, rfl, rfl, by omega, by omega, fun j hj => absurd hj (Nat.not_lt_zero _), Below.refl _ _⟩
  case round =>
    obtain ⟨k, r, hk, rfl, rfl, hr0, hr1, HA, hB⟩ := hrel
    by_cases hlt : k < len
    · obtain ⟨b, off, rfl, hbs, hcell⟩ := hc (by omega)
      obtain ⟨c0, c1, c2, c3, c4, c5, ci⟩ : NdAt wr b (off + k * 6) (D k) := by
        have := hcell k hlt
        refine ⟨(hB.cell (p := ⟨b, _, none⟩) hbs).trans this.c0, (hB.cell (p := ⟨b, _, none⟩) hbs).trans this.c1, (hB.cell (p := ⟨b, _, none⟩) hbs).trans this.c2, (hB.cell (p := ⟨b, _, none⟩) hbs).trans this.c3, (hB.cell (p := ⟨b, _, none⟩) hbs).trans this.c4, (hB.cell (p := ⟨b, _, none⟩) hbs).trans this.c5, this.i.below hB⟩
      have hltI : (k : Int) < (len : Int) := by omega
      have hf := hF k hlt
      have HI : Hid (IsStrs wr (D k).u (D k).n (D k).cap (D k).S) := ci
      clear hcell hc ci hF
      go_wp2_with fail
      refine (szNode2 _ _ _ _ _ _ _ _ (D k).S _ HI.out hf.2.2 hf.1 hf.2.1 r hr0 (by omega)).mono ?_
      rintro e w1 ⟨r1, rfl, hq, hB1⟩
      have HB1 : Hid (Below w.heap.size w w1) := hB.trans (hB1.mono hB.size)
      clear hB1
      rcases hq with hq | ⟨hq0, hq1, _, _, hq2, _⟩
      · go_wp2
        go_ret
        exact ⟨_, rfl, .inl (by decide), HB1.out⟩
      · have HA' : Hid (∀ j, j < k + 1 → (D j).n ≤ 1048576) := by
          intro j hj
          rcases Nat.lt_succ_iff_lt_or_eq.1 hj with h1 | rfl
          · exact HA.out j h1
          · exact hq2
        go_wp2
        go_roundw
        case rel => exact ⟨k + 1, _, by omega, by go_num, rfl, by omega, by omega, HA', HB1.out⟩
        case measure => simp [intOf]; omega
    · have hke : k = len := by omega
      subst hke
      go_wp2
      go_ret
      exact ⟨_, rfl, .inr ⟨hr0, hr1, hlen, HA.out⟩, hB⟩
end Go.Proofs.YtjhbccppihledaaGreatDoor

namespace Go.Proofs.YtjhbccppihledaaGreatDoor
open Go.RowKit
set_option linter.unusedVariables false

/-- of the first heads those that are none of the ids -/
def omIn (I : Nat → ByteArray) (n : Nat) (S : Nat → ByteArray) (L : List (List UInt8)) : Nat → List (List UInt8)
  | 0 => L
  | k + 1 => if outB I n (S k) = true then putL (omIn I n S L k) (S k).toList else omIn I n S L k
/-- of the first commitments likewise -/
def omAll (I : Nat → ByteArray) (n : Nat) (C : Nat → Cm) : Nat → List (List UInt8)
  | 0 => []
  | i + 1 => omIn I n (C i).S (omAll I n C i) (C i).n
/-- what is left out -/
def omR (D : Nat → Nd) (len : Nat) (C : Nat → Cm) (m : Nat) : List (List UInt8) := if (dagB D len && cmsB C m) = true then omAll (ids D) len C m else []

theorem omIn_yes {I : Nat → ByteArray} {n : Nat} {S : Nat → ByteArray} {L : List (List UInt8)} {k : Nat} (h : outB I n (S k) = true) : omIn I n S L (k + 1) = putL (omIn I n S L k) (S k).toList := by rw [omIn, if_pos h]
theorem omIn_no {I : Nat → ByteArray} {n : Nat} {S : Nat → ByteArray} {L : List (List UInt8)} {k : Nat} (h : outB I n (S k) = false) : omIn I n S L (k + 1) = omIn I n S L k := by rw [omIn, if_neg (by rw [h]; decide)]
theorem omIn_len (I : Nat → ByteArray) (n : Nat) (S : Nat → ByteArray) (L : List (List UInt8)) : ∀ k, (omIn I n S L k).length ≤ L.length + k
  | 0 => Nat.le_refl _
  | k + 1 => by
    have ih := omIn_len I n S L k
    cases h : outB I n (S k) with
    | true =>
      rw [omIn_yes h]
      have := putL_len (S k).toList (omIn I n S L k)
      omega
    | false => rw [omIn_no h]; omega
theorem omIn_up (I : Nat → ByteArray) (n : Nat) (S : Nat → ByteArray) (L : List (List UInt8)) (hL : Up L) : ∀ k, Up (omIn I n S L k)
  | 0 => hL
  | k + 1 => by
    have ih := omIn_up I n S L hL k
    cases h : outB I n (S k) with
    | true => rw [omIn_yes h]; exact putL_up _ _ ih
    | false => rw [omIn_no h]; exact ih
theorem omAll_len (I : Nat → ByteArray) (n : Nat) (C : Nat → Cm) : ∀ i, (∀ j, j < i → (C j).n ≤ 5) → (omAll I n C i).length ≤ i * 5
  | 0, _ => Nat.le_refl _
  | i + 1, h => by
    have ih := omAll_len I n C i (fun j hj => h j (by omega))
    have h1 := omIn_len I n (C i).S (omAll I n C i) (C i).n
    have h2 := h i (by omega)
    show (omIn I n (C i).S (omAll I n C i) (C i).n).length ≤ _
    omega
theorem omAll_up (I : Nat → ByteArray) (n : Nat) (C : Nat → Cm) : ∀ i, Up (omAll I n C i)
  | 0 => by simp [omAll, Up]
  | i + 1 => omIn_up I n (C i).S _ (omAll_up I n C i) _
theorem allB_at {p : Nat → Bool} {n i : Nat} (h : allB p n = true) (hi : i < n) : p i = true := by
  cases hq : p i with
  | true => rfl
  | false => rw [allB_false hi hq] at h; cases h
theorem cmsB_parts {C : Nat → Cm} {m : Nat} (h : cmsB C m = true) : m ≤ 30 ∧ ∀ i, i < m → (C i).n ≤ 5 := by
  unfold cmsB at h
  simp only [Bool.and_eq_true, decide_eq_true_eq] at h
  refine ⟨h.1, fun i hi => ?_⟩
  have := allB_at h.2 hi
  unfold Cm.ok idsB at this
  simp only [Bool.and_eq_true, decide_eq_true_eq] at this
  exact this.2.2.1.1
theorem omR_len (D : Nat → Nd) (len : Nat) (C : Nat → Cm) (m : Nat) : (omR D len C m).length ≤ 1000000 := by
  unfold omR
  split
  · rename_i h
    simp only [Bool.and_eq_true] at h
    have h1 := cmsB_parts h.2
    have := omAll_len (ids D) len C m h1.2
    omega
  · simp

theorem cms_at {w : World} {a : Option Addr} {len cap : Nat} {D : Nat → Cm} {b off : Nat} (h : IsCms w a len cap D) (ha : a = some ⟨b, off, none⟩) (i : Nat) (hi : i < len) : CmAt w b (off + i * 3) (D i) := by
  obtain ⟨_, _, h3⟩ := h
  obtain ⟨b', off', e, _, hc⟩ := h3 (by omega)
  rw [ha] at e
  simp only [Option.some.injEq, Addr.mk.injEq, and_true] at e
  obtain ⟨rfl, rfl⟩ := e
  exact hc i hi

set_option maxHeartbeats 4000000 in
theorem specOmitted_any (a : Option Addr) (len cap : Nat) (D : Nat → Nd) (c : Option Addr) (m mcap : Nat) (C : Nat → Cm) (w : World) (h : IsNds w a len cap D) (hf : Fine D len) (h' : IsCms w c m mcap C) (hf' : CFine C m) :
    Calls Tryz.prog 35 #[.slice a len cap, .slice c m mcap] w fun e w' => ∃ v, e = .returned v ∧ OwnL w' w.heap.size v (omR D len C m) ∧ Below w.heap.size w w' := by
  have HN : Hid (IsNds w a len cap D) := h
  have HC : Hid (IsCms w c m mcap C) := h'
  have HF : Hid (Fine D len) := hf
  have hBa : Below w.heap.size w (w.alloc (.cells #[] 9)) := (Below.refl _ _).alloc (Nat.le_refl _) _
  have HS : Hid (Calls Tryz.prog 11 #[.slice a len cap] (w.alloc (.cells #[] 9)) fun e w' => e = .returned (.bool (dagB D len)) ∧ Below (w.alloc (.cells #[] 9)).heap.size (w.alloc (.cells #[] 9)) w') := specDagOk_any a len cap D _ (h.below hBa) hf
  have HT : Hid (∀ v, Below w.heap.size w v → Calls Tryz.prog 65 #[.slice c m mcap] v fun e w' => e = .returned (.bool (cmsB C m)) ∧ Below v.heap.size v w') := fun v hB => specCms_any c m mcap C v (HC.out.below hB) hf'
  have HM : Hid (OwnS (w.alloc (.cells #[] 9)) w.heap.size w.heap.size 0 []) := OwnS.made w _ (Nat.le_refl _)
  have HBa : Hid (Below w.heap.size w (w.alloc (.cells #[] 9))) := hBa
  obtain ⟨hlc, hcm, hc⟩ := h'
  clear hf hf' hBa h
  cases hq : dagB D len with
  | false =>
    have HR : Hid (omR D len C m = []) := by show _ = _; unfold omR; rw [if_neg (by rw [hq]; simp)]
    rw [hq] at HS
    go_enter Tryz.func35, Tryz.ntmps35
    go_wp2_with (go_at_call 11; refine HS.out.mono ?_; rintro e w1 ⟨rfl, hB1⟩; have HB1 : Hid (Below w.heap.size w w1) := HBa.out.trans (hB1.mono HBa.out.size); have HO1 : Hid (OwnS w1 w.heap.size w.heap.size 0 []) := HM.out.below hB1; clear hB1)
    go_ret
    refine ⟨_, rfl, ?_, HB1.out⟩
    rw [HR.out]
    exact HO1.out.ownL
  | true =>
  rw [hq] at HS
  cases hq2 : cmsB C m with
  | false =>
    have HR : Hid (omR D len C m = []) := by show _ = _; unfold omR; rw [if_neg (by rw [hq2]; simp)]
    rw [hq2] at HT
    go_enter Tryz.func35, Tryz.ntmps35
    go_wp2_with (first
      | (go_at_call 11; refine HS.out.mono ?_; rintro e w1 ⟨rfl, hB1⟩; have HB1 : Hid (Below w.heap.size w w1) := HBa.out.trans (hB1.mono HBa.out.size); have HO1 : Hid (OwnS w1 w.heap.size w.heap.size 0 []) := HM.out.below hB1; clear hB1)
      | (go_at_call 65; refine (HT.out w1 HB1.out).mono ?_; rintro e w2 ⟨rfl, hB2⟩))
    go_ret
    refine ⟨_, rfl, ?_, HB1.out.trans (hB2.mono HB1.out.size)⟩
    rw [HR.out]
    exact (HO1.out.below hB2).ownL
  | true =>
  rw [hq2] at HT
  have HR : Hid (omR D len C m = omAll (ids D) len C m) := by show _ = _; unfold omR; rw [if_pos (by rw [hq, hq2]; rfl)]
  have hl := (dagB_parts hq).1
  have HP : Hid (m ≤ 30 ∧ ∀ i, i < m → (C i).n ≤ 5) := cmsB_parts hq2
  have HA : Hid (∀ v, Below w.heap.size w v → Calls Tryz.prog 42 #[.slice a len cap] v fun e w' => ∃ g gc, e = .returned (.slice g len gc) ∧ IsStrs w' g len gc (fun i => (D i).id) ∧ Below v.heap.size v w') := fun v hB => l6All_any a len cap D v (HN.out.below hB) HF.out hl
  clear hq hq2
  go_enter Tryz.func35, Tryz.ntmps35
  go_wp2_with (first
    | (go_at_call 11; refine HS.out.mono ?_; rintro e w1 ⟨rfl, hB1⟩; have HB1 : Hid (Below w.heap.size w w1) := HBa.out.trans (hB1.mono HBa.out.size); have HO1 : Hid (OwnS w1 w.heap.size w.heap.size 0 []) := HM.out.below hB1; clear hB1)
    | (go_at_call 65; refine (HT.out w1 HB1.out).mono ?_; rintro e w2 ⟨rfl, hB2⟩; have HB2 : Hid (Below w.heap.size w w2) := HB1.out.trans (hB2.mono HB1.out.size); have HO2 : Hid (OwnS w2 w.heap.size w.heap.size 0 []) := HO1.out.below hB2; clear hB2)
    | (go_at_call 42; refine (HA.out w2 HB2.out).mono ?_; rintro e w3 ⟨g, gc, rfl, hI, hB3⟩; have HB3 : Hid (Below w.heap.size w w3) := HB2.out.trans (hB3.mono HB2.out.size); have HO3 : Hid (OwnS w3 w.heap.size w.heap.size 0 []) := HO2.out.below hB3; have HI : Hid (IsStrs w3 g len gc (ids D)) := hI; clear hB3 hI))
  clear HS HT HA
  go_loopw [7, 5] (fun i v wr => ∃ (k t tc : Nat), k ≤ m ∧ i = .int .i64 k ∧ v = .slice (some ⟨t, 0, none⟩) (omAll (ids D) len C k).length tc ∧ OwnS wr w.heap.size t tc (omAll (ids D) len C k) ∧ Below w3.heap.size w3 wr)
    (fun i _ _ => m - (intOf i).toNat)
  case atStart => exact ⟨0, w.heap.size, 0, Nat.zero_le _, rfl, rfl, HO3.out, Below.refl _ _⟩
  case round =>
    obtain ⟨k, t, tc, hk, rfl, rfl, ho, hB⟩ := hrel
    have HO : Hid (OwnS wr w.heap.size t tc (omAll (ids D) len C k)) := ho
    have HB : Hid (Below w3.heap.size w3 wr) := hB
    clear ho hB
    by_cases hlt : k < m
    · have hltI : (k : Int) < (m : Int) := by omega
      obtain ⟨b, off, ea, hbs, _⟩ := hc (by omega)
      subst ea
      have HD : Hid (∀ v, Below w3.heap.size w3 v → CmAt v b (off + k * 3) (C k)) := fun v hB => cms_at ((HC.out.below HB3.out).below hB) rfl k hlt
      have hn5 := HP.out.2 k hlt
      have hlk : (omAll (ids D) len C k).length ≤ k * 5 := omAll_len (ids D) len C k (fun j hj => HP.out.2 j (by omega))
      have hm30 := HP.out.1
      have HY : Hid (omAll (ids D) len C (k + 1) = omIn (ids D) len (C k).S (omAll (ids D) len C k) (C k).n) := rfl
      obtain ⟨L0, hL0⟩ : ∃ L0, L0 = omAll (ids D) len C k := ⟨_, rfl⟩
      rw [← hL0] at hlk HY HO ⊢
      clear hL0
      go_wp2
      go_loopw [8, 5] (fun i v wi => ∃ (j t tc : Nat), j ≤ (C k).n ∧ i = .int .i64 j ∧ v = .slice (some ⟨t, 0, none⟩) (omIn (ids D) len (C k).S L0 j).length tc ∧ OwnS wi w.heap.size t tc (omIn (ids D) len (C k).S L0 j) ∧ Below w3.heap.size w3 wi)
        (fun i _ _ => (C k).n - (intOf i).toNat)
      case atStart => exact ⟨0, t, tc, Nat.zero_le _, rfl, rfl, HO.out, HB.out⟩
      case round =>
        obtain ⟨j, t', tc', hj, rfl, rfl, ho, hB⟩ := hrel
        have HOj : Hid (OwnS wr w.heap.size t' tc' (omIn (ids D) len (C k).S L0 j)) := ho
        have HBj : Hid (Below w3.heap.size w3 wr) := hB
        obtain ⟨_, _, c2, ci⟩ := HD.out wr hB
        by_cases hjt : j < (C k).n
        · have hjI : (j : Int) < ((C k).n : Int) := by omega
          obtain ⟨ub, uo, hu, hus, hucell⟩ := ci.2.2 (by omega)
          have d1 := hucell j hjt
          have hil := omIn_len (ids D) len (C k).S L0 j
          have HPut : Hid (Calls Tryz.prog 52 #[.slice (some ⟨t', 0, none⟩) (omIn (ids D) len (C k).S L0 j).length tc', .string ((C k).S j)] wr fun e w' => ∃ g' gc', e = .returned (.slice (some ⟨g', 0, none⟩) (putL (omIn (ids D) len (C k).S L0 j) ((C k).S j).toList).length gc') ∧ OwnS w' wr.heap.size g' gc' (putL (omIn (ids D) len (C k).S L0 j) ((C k).S j).toList) ∧ Below wr.heap.size wr w') := l1Put_any t' 0 tc' _ ((C k).S j) wr ho.lies.1 ho.lies.2.1 ho.caps.1 ho.caps.2 (by omega)
          have HH : Hid (Calls Tryz.prog 62 #[.slice g len gc, .string ((C k).S j)] wr fun e w' => e = .returned (.bool (!(outB (ids D) len ((C k).S j)))) ∧ w' = wr) := l1Has_any g len gc (ids D) ((C k).S j) wr (HI.out.below hB)
          rw [hu] at c2
          clear ho hB ci hucell hil
          cases hq : outB (ids D) len ((C k).S j) with
          | true =>
            have HY2 : Hid (omIn (ids D) len (C k).S L0 (j + 1) = putL (omIn (ids D) len (C k).S L0 j) ((C k).S j).toList) := omIn_yes hq
            rw [hq] at HH
            clear hq
            go_wp2_with (first
              | (go_at_call 62; refine HH.out.mono ?_; rintro e w5 ⟨rfl, hw5⟩; rw [hw5]; clear hw5 w5)
              | (go_at_call 52; refine HPut.out.mono ?_; rintro e w5 ⟨g', gc', rfl, ho2, hB2⟩))
            go_roundw
            case rel =>
              refine ⟨j + 1, g', gc', by omega, by go_num, by rw [HY2.out], ?_, HBj.out.trans (hB2.mono HBj.out.size)⟩
              rw [HY2.out]
              exact mono_base ho2 (Nat.le_trans HB3.out.size HBj.out.size)
            case measure => simp [intOf]; omega
          | false =>
            have HY2 : Hid (omIn (ids D) len (C k).S L0 (j + 1) = omIn (ids D) len (C k).S L0 j) := omIn_no hq
            rw [hq] at HH
            clear hq HPut
            go_wp2_with (go_at_call 62; refine HH.out.mono ?_; rintro e w5 ⟨rfl, hw5⟩; rw [hw5]; clear hw5 w5)
            go_roundw
            case rel => exact ⟨j + 1, t', tc', by omega, by go_num, by rw [HY2.out], by rw [HY2.out]; exact HOj.out, HBj.out⟩
            case measure => simp [intOf]; omega
        · have hje : j = (C k).n := by omega
          have hjn : ¬ ((j : Int) < ((C k).n : Int)) := by omega
          clear ho hB ci
          go_wp2
          go_roundw
          case rel => exact ⟨k + 1, t', tc', by omega, by go_num, by rw [HY.out, hje], by rw [HY.out, ← hje]; exact HOj.out, HBj.out⟩
          case measure => simp [intOf]; omega
    · have hke : k = m := by omega
      subst hke
      go_wp2
      go_ret
      refine ⟨_, rfl, ?_, HB3.out.trans (HB.out.mono HB3.out.size)⟩
      rw [HR.out]
      exact OwnS.ownL HO.out
end Go.Proofs.YtjhbccppihledaaGreatDoor

namespace Go.Proofs.YtjhbccppihledaaGreatDoor
open Go.RowKit Go.Maps
set_option linter.unusedVariables false

set_option maxHeartbeats 4000000 in
theorem implOmitted_any (a : Option Addr) (len cap : Nat) (D : Nat → Nd) (c : Option Addr) (m mcap : Nat) (C : Nat → Cm) (w : World) (h : IsNds w a len cap D) (hf : Fine D len) (h' : IsCms w c m mcap C) (hf' : CFine C m) (hP : AllT w) :
    Calls Tryz.prog 37 #[.slice a len cap, .slice c m mcap] w fun e w' => ∃ v, e = .returned v ∧ OwnL w' w.heap.size v (omR D len C m) ∧ Below w.heap.size w w' := by
  have HC : Hid (IsCms w c m mcap C) := h'
  have HCF : Hid (CFine C m) := hf'
  have HN : Hid (IsNds w a len cap D) := h
  have HF : Hid (Fine D len) := hf
  have HPT : Hid (AllT w) := hP
  have HT : Hid (∀ v, Below w.heap.size w v → Calls Tryz.prog 67 #[.slice c m mcap] v fun e w' => e = .returned (.bool (cmsB C m)) ∧ Below v.heap.size v w') := fun v hB => implCms_any c m mcap C v (HC.out.below hB) hf'
  obtain ⟨hlc, hcm, hc⟩ := h'
  clear hf hf' h hP
  cases hq : dagB D len with
  | false =>
    have HR : Hid (omR D len C m = []) := by show _ = _; unfold omR; rw [if_neg (by rw [hq]; simp)]
    go_enter Tryz.func37, Tryz.ntmps37
    go_wp2_with (go_at_call 45; refine (dagOf_any a len cap D w HN.out HF.out HPT.out).mono ?_; rintro e w1 ⟨v, rfl, _, hB1⟩; rw [hq])
    go_ret
    refine ⟨_, rfl, ?_, hB1⟩
    rw [HR.out]
    exact World.ownsRow_nil _ _ _ _
  | true =>
  cases hq2 : cmsB C m with
  | false =>
    have HR : Hid (omR D len C m = []) := by show _ = _; unfold omR; rw [if_neg (by rw [hq2]; simp)]
    rw [hq2] at HT
    go_enter Tryz.func37, Tryz.ntmps37
    go_wp2_with (first
      | (go_at_call 45; refine (dagOf_any a len cap D w HN.out HF.out HPT.out).mono ?_; rintro e w1 ⟨v, rfl, _, hB1⟩; rw [hq])
      | (go_at_call 67; refine (HT.out w1 hB1).mono ?_; rintro e w2 ⟨rfl, hB2⟩))
    go_ret
    refine ⟨_, rfl, ?_, hB1.trans (hB2.mono hB1.size)⟩
    rw [HR.out]
    exact World.ownsRow_nil _ _ _ _
  | true =>
  rw [hq2] at HT
  have HR : Hid (omR D len C m = omAll (ids D) len C m) := by show _ = _; unfold omR; rw [if_pos (by rw [hq, hq2]; rfl)]
  have HP : Hid (m ≤ 30 ∧ ∀ i, i < m → (C i).n ≤ 5) := cmsB_parts hq2
  have hmm := @run_makeMap Tryz.prog
  clear hq2
  go_enter Tryz.func37, Tryz.ntmps37
  go_wp2_with (first
    | (go_at_call 45; refine (dagOf_any a len cap D w HN.out HF.out HPT.out).mono ?_; rintro e w1 ⟨v, rfl, hv, hB1⟩; rw [hq]; obtain ⟨Bd, db, doff, rfl, hBd, _, hown⟩ := hv hq; have HB1 : Hid (Below w.heap.size w w1) := hB1; have HO1 : Hid (w1.ownsMap Tryz.prog 9 PR Bd len (mapD D db doff len)) := hown; clear hv hBd hown hB1)
    | (go_at_call 67; refine (HT.out w1 HB1.out).mono ?_; rintro e w2 ⟨rfl, hB2⟩; have HB2 : Hid (Below w.heap.size w w2) := HB1.out.trans (hB2.mono HB1.out.size); have HO2 : Hid (w2.ownsMap Tryz.prog 9 PR Bd len (mapD D db doff len)) := ownsMap_below HO1.out hB2; clear hB2))
  clear HT hq
  have HLT : Hid (Bd < w2.heap.size) := HO2.out.lt
  go_loopw [27] (fun i wr => ∃ (k : Nat) (E : DataW Value), k ≤ m ∧ i = .int .i64 k ∧ SetOf wr w2.heap.size (k * 5) E ∧ Hid (∀ x, has E (.string x) = true ↔ x ∈ omAll (ids D) len C k) ∧ Below w2.heap.size w2 wr)
    (fun i _ => m - (intOf i).toNat)
  case atStart => exact ⟨0, .map [], Nat.zero_le _, rfl, World.ownsMap_made _ _ _ _, (fun x => by simp [has_eq, omAll]), (Below.refl _ _).alloc (Nat.le_refl _) _⟩
  case round =>
    obtain ⟨k, E, hk, rfl, hs, HS, hB⟩ := hrel
    have HO : Hid (SetOf wr w2.heap.size (k * 5) E) := hs
    have HB : Hid (Below w2.heap.size w2 wr) := hB
    clear hs hB
    by_cases hlt : k < m
    · have hltI : (k : Int) < (m : Int) := by omega
      obtain ⟨b, off, ea, hbs, _⟩ := hc (by omega)
      subst ea
      obtain ⟨c0, c1, c2, ci⟩ := cms_at ((HC.out.below HB2.out).below HB.out) rfl k hlt
      have hn5 := HP.out.2 k hlt
      have hm30 := HP.out.1
      have HY : Hid (omAll (ids D) len C (k + 1) = omIn (ids D) len (C k).S (omAll (ids D) len C k) (C k).n) := rfl
      have HSz : Hid (∀ j, j < (C k).n → ((C k).S j).size ≤ 9223372036854775807) := HCF.out k hlt
      obtain ⟨wa, hwa⟩ : ∃ wa, wa = wr.alloc (.cells #[.int .i64 (C k).a, .int .i64 (C k).c, .slice (C k).u (C k).n (C k).cap] 93) := ⟨_, rfl⟩
      have hBa : Below wr.heap.size wr wa := by rw [hwa]; exact (Below.refl _ _).alloc (Nat.le_refl _) _
      have HOa : Hid (SetOf wa w2.heap.size (k * 5) E) := SetOf.below HO.out hBa
      have HBa : Hid (Below w2.heap.size w2 wa) := HB.out.trans (hBa.mono HB.out.size)
      have HU : Hid (∀ v, Below w2.heap.size w2 v → IsStrs v (C k).u (C k).n (C k).cap (C k).S) := fun v hv => (cms_at ((HC.out.below HB2.out).below hv) rfl k hlt).i
      have HWA : Hid (wa = wr.alloc (.cells #[.int .i64 (C k).a, .int .i64 (C k).c, .slice (C k).u (C k).n (C k).cap] 93)) := hwa
      clear hwa hBa ci
      go_wp2
      rw [← HWA.out]
      go_loopw [34] (fun i wi => ∃ (j : Nat) (E' : DataW Value), j ≤ (C k).n ∧ i = .int .i64 j ∧ SetOf wi w2.heap.size (k * 5 + j) E' ∧ Hid (∀ x, has E' (.string x) = true ↔ x ∈ omIn (ids D) len (C k).S (omAll (ids D) len C k) j) ∧ Below w2.heap.size w2 wi)
        (fun i _ => (C k).n - (intOf i).toNat)
      case atStart => exact ⟨0, E, Nat.zero_le _, rfl, HOa.out, HS, HBa.out⟩
      case round =>
        obtain ⟨j, E', hj, rfl, hs, HSj, hB⟩ := hrel
        have HOj : Hid (SetOf wr w2.heap.size (k * 5 + j) E') := hs
        have HBj : Hid (Below w2.heap.size w2 wr) := hB
        have hU := HU.out wr hB
        clear hs hB
        by_cases hjt : j < (C k).n
        · have hjI : (j : Int) < ((C k).n : Int) := by omega
          obtain ⟨ub, uo, hu, hus, hucell⟩ := hU.2.2 (by omega)
          have d1 := hucell j hjt
          obtain ⟨p, hrun, ho1, ho2⟩ := look_ok (ownsMap_below HO2.out HBj.out) ((C k).S j) (HSz.out j hjt)
          rw [hu]
          clear hU hucell
          cases hq : outB (ids D) len ((C k).S j) with
          | true =>
            have HY2 : Hid (omIn (ids D) len (C k).S (omAll (ids D) len C k) (j + 1) = putL (omIn (ids D) len (C k).S (omAll (ids D) len C k) j) ((C k).S j).toList) := omIn_yes hq
            have hp := ho1 hq
            subst hp
            clear ho1 ho2 hq
            go_wp2_with (go_at_call 53; refine (put_any w2.heap.size (k * 5 + j) E' ((C k).S j) wr HOj.out (by omega) (HSz.out j hjt)).mono ?_; rintro e w5 ⟨rfl, hs2, hg2⟩)
            go_roundw
            case rel =>
              refine ⟨j + 1, _, by omega, by go_num, hs2, fun x => ?_, HBj.out.grown hg2 HBj.out.size (fun i hi => by cases hi; exact Nat.le_refl _)⟩
              rw [putE_has (SetOf.isMap HOj.out), HSj.out x, HY2.out, putL_mem]
              exact or_congr Iff.rfl ⟨fun h => h.symm, fun h => h.symm⟩
            case measure => simp [intOf]; omega
          | false =>
            have HY2 : Hid (omIn (ids D) len (C k).S (omAll (ids D) len C k) (j + 1) = omIn (ids D) len (C k).S (omAll (ids D) len C k) j) := omIn_no hq
            obtain ⟨ad, hp⟩ := ho2 hq
            subst hp
            clear ho1 ho2 hq
            go_wp2
            go_roundw
            case rel =>
              refine ⟨j + 1, E', by omega, by go_num, World.ownsMap.mono HOj.out (by omega), fun x => ?_, HBj.out⟩
              rw [HY2.out]
              exact HSj.out x
            case measure => simp [intOf]; omega
        · have hje : j = (C k).n := by omega
          have hjn : ¬ ((j : Int) < ((C k).n : Int)) := by omega
          clear hU
          go_wp2
          go_roundw
          case rel => exact ⟨k + 1, E', by omega, by go_num, World.ownsMap.mono HOj.out (by omega), (fun x => by rw [HY.out, ← hje]; exact HSj.out x), HBj.out⟩
          case measure => simp [intOf]; omega
    · have hke : k = m := by omega
      have hk30 : k ≤ 30 := by rw [hke]; exact HP.out.1
      subst hke
      go_wp2_with (go_at_call 54; refine (rising_any w2.heap.size (k * 5) E _ HO.out (by omega)).mono ?_; rintro e w4 ⟨v, L, rfl, hU, hM, hO4, hB4⟩)
      go_ret
      have b4 : Below w.heap.size w wr := HB2.out.trans (HB.out.mono HB2.out.size)
      refine ⟨v, rfl, ?_, b4.trans (hB4.mono b4.size)⟩
      have e1 : L = omR D len C k := by
        rw [HR.out]
        exact up_unique hU (omAll_up (ids D) len C k) (fun x => by rw [hM x, HS.out x])
      rw [← e1]
      exact mono_base hO4 b4.size
end Go.Proofs.YtjhbccppihledaaGreatDoor

namespace Go.Proofs.YtjhbccppihledaaGreatDoor
open Go.RowKit
set_option linter.unusedVariables false

theorem omR_at (D : Nat → Nd) (G : Nat → Nat) (len : Nat) (C : Nat → Cm) (T : Nat → Nat) (m : Nat) : omR (fun i => (D i).at (G i)) len (fun i => (C i).at (T i)) m = omR D len C m := by
  have h : ∀ k, omAll (ids D) len (fun i => (C i).at (T i)) k = omAll (ids D) len C k := fun k => by
    induction k with
    | zero => rfl
    | succ k ih =>
      show omIn (ids D) len ((C k).at (T k)).S (omAll (ids D) len (fun i => (C i).at (T i)) k) ((C k).at (T k)).n = omIn (ids D) len (C k).S (omAll (ids D) len C k) (C k).n
      rw [ih]
      rfl
  unfold omR
  rw [show dagB (fun i => (D i).at (G i)) len = dagB D len from rfl, show cmsB (fun i => (C i).at (T i)) m = cmsB C m from rfl, show ids (fun i => (D i).at (G i)) = ids D from rfl, h]

set_option maxHeartbeats 4000000 in
theorem lawO_walk (a : Option Addr) (len cap : Nat) (D : Nat → Nd) (u : Option Addr) (m uc : Nat) (C : Nat → Cm) (w : World) (h : IsNds w a len cap D) (hf : Fine D len) (hC : IsCms w u m uc C) (hCf : CFine C m) (hP : AllT w) :
    Calls Tryz.prog 9 #[.slice a len cap, .slice u m uc] w fun e w' => e = .returned (.bool true) ∧ Below w.heap.size w w' := by
  go_enter Tryz.func9, Tryz.ntmps9
  go_wp2_with fail
  refine (szNodeS_L a len cap D _ h hf 1048576 (by omega) (by omega)).mono ?_
  rintro e w1 ⟨r, rfl, hr, b1⟩
  rcases hr with hr | ⟨hr, hr2, hl, hz⟩
  · go_wp2
    go_ret
    exact ⟨rfl, b1⟩
  go_wp2_with fail
  refine (szCms_any u m uc C _ (hC.below b1) hCf r hr hr2).mono ?_
  rintro e w1' ⟨r', rfl, hr', hB1'⟩
  have b1' := b1.trans (hB1'.mono b1.size)
  rcases hr' with hr' | ⟨hr', _, hml, hms0⟩
  · go_wp2
    go_ret
    exact ⟨rfl, b1'⟩
  have hms : ∀ i, i < m → (C i).n ≤ 1048576 := fun i hi => (hms0 i hi).1
  clear hr2 hms0 hB1' b1
  go_wp2_with fail
  refine (toNodeS_any a len cap D _ (h.below b1') hl hz).mono ?_
  rintro e w2 ⟨g2, G2, rfl, i2, hB2⟩
  have b2 := b1'.trans (hB2.mono b1'.size)
  have f2 : Fine (fun i => (D i).at (G2 i)) len := hf
  go_wp2_with fail
  refine (toCms_any u m uc C _ (hC.below b2) hml hms).mono ?_
  rintro e w2' ⟨t2, T2, rfl, j2, hB2'⟩
  have b2' := b2.trans (hB2'.mono b2.size)
  have cf2 : CFine (fun i => (C i).at (T2 i)) m := hCf
  go_wp2_with fail
  refine (specOmitted_any _ len len _ _ m m _ _ (i2.below hB2') f2 j2 cf2).mono ?_
  rintro e w3 ⟨v3, rfl, o3, hB3⟩
  rw [omR_at D G2 len C T2 m] at o3
  have b3 := b2'.trans (hB3.mono b2'.size)
  obtain ⟨L, hL⟩ : ∃ L, L = omR D len C m := ⟨_, rfl⟩
  rw [← hL] at o3
  have HL : Hid (L = omR D len C m) := hL
  clear hL hB2 hB3 i2 f2 j2 cf2 hB2' b2'
  obtain ⟨a3, c3, rfl, i3, q3⟩ := o3.strs2
  go_wp2_with fail
  refine (toNodeS_own a len cap D _ (h.below b3) hl hz).mono ?_
  rintro e w4 ⟨g4, G4, rfl, i4, hB4, n4⟩
  have b4 := b3.trans (hB4.mono b3.size)
  have f4 : Fine (fun i => (D i).at (G4 i)) len := hf
  go_wp2_with fail
  refine (toCms_own u m uc C _ (hC.below b4) hml hms).mono ?_
  rintro e w5 ⟨t5, T5, rfl, j5, hB5, r5⟩
  have b5 := b4.trans (hB5.mono b4.size)
  have cf5 : CFine (fun i => (C i).at (T5 i)) m := hCf
  have H45 := hB5
  go_wp2_with fail
  refine (implOmitted_any _ len len _ _ m m _ _ (i4.below hB5) f4 j5 cf5 (hP.below b5)).mono ?_
  rintro e w6 ⟨v6, rfl, o6, hB6⟩
  rw [omR_at D G4 len C T5 m, ← HL.out] at o6
  have b6 := b5.trans (hB6.mono b5.size)
  have B5 : Below w3.heap.size w3 w5 := hB4.trans (hB5.mono hB4.size)
  have B6 : Below w3.heap.size w3 w6 := B5.trans (hB6.mono B5.size)
  obtain ⟨a6, c6, rfl, i6, q6⟩ := o6.strs2
  clear f4 cf5
  go_wp2_with fail
  refine (eqStringS_same _ _ _ _ _ _ _ i6 (i3.below B6)).mono ?_
  rintro e w7 ⟨rfl, hB7⟩
  have b7 := b6.trans (hB7.mono b6.size)
  go_wp2_with fail
  refine (toNodeS_any a len cap D _ (h.below b7) hl hz).mono ?_
  rintro e w8 ⟨g8, G8, rfl, i8, hB8⟩
  have b8 := b7.trans (hB8.mono b7.size)
  have H68 : Below w6.heap.size w6 w8 := hB7.trans (hB8.mono hB7.size)
  have H58 : Below w5.heap.size w5 w8 := hB6.trans (H68.mono hB6.size)
  have H48 : Below w4.heap.size w4 w8 := hB5.trans (H58.mono hB5.size)
  go_wp2_with fail
  refine (eqNodeS_like _ _ len len len _ _ _ (i4.below H48) i8 (fun i hi => ⟨rfl, rfl, rfl, rfl, rfl, rfl, rfl⟩)).mono ?_
  rintro e w9 ⟨rfl, hB9⟩
  have b9 := b8.trans (hB9.mono b8.size)
  have H59 : Below w5.heap.size w5 w9 := H58.trans (hB9.mono H58.size)
  go_wp2_with fail
  refine (toCms_any u m uc C _ (hC.below b9) hml hms).mono ?_
  rintro e w10 ⟨t10, T10, rfl, j10, hB10⟩
  have b10 := b9.trans (hB10.mono b9.size)
  have H510 : Below w5.heap.size w5 w10 := H59.trans (hB10.mono H59.size)
  go_wp2_with fail
  refine (eqCms_like _ _ m m m _ _ _ (j5.below H510) j10 (fun i hi => ⟨rfl, rfl, rfl, rfl⟩)).mono ?_
  rintro e w11 ⟨rfl, hB11⟩
  have b11 := b10.trans (hB11.mono b10.size)
  have H611 : Below w6.heap.size w6 w11 := H68.trans ((hB9.trans ((hB10.trans (hB11.mono hB10.size)).mono hB9.size)).mono H68.size)
  have H511 : Below w5.heap.size w5 w11 := H510.trans (hB11.mono H510.size)
  have H411 : Below w4.heap.size w4 w11 := H45.trans (H511.mono H45.size)
  have B11 : Below w3.heap.size w3 w11 := hB4.trans (H411.mono hB4.size)
  have n11 := n4.below H411
  have r11 := r5.below H511
  go_wp2_with fail
  refine (markNodeS_any g4 len w3.heap.size w4.heap.size G4 _ _ n11 hl hz n4.top.1 n4.top.2).mono ?_
  rintro e w12 ⟨k12, rfl, hk12, hk12', K12⟩
  have s34 : w3.heap.size ≤ w4.heap.size := hB4.size
  have s45 : w4.heap.size ≤ w5.heap.size := H45.size
  have s311 : w3.heap.size ≤ w11.heap.size := B11.size
  have B12 : Below w3.heap.size w3 w12 := B11.trans ((K12.mono (fun k hk => .inl hk)).below s311)
  have b12 : Below w.heap.size w w12 := b11.trans (((K12.mono (fun k hk => .inl hk)).below s311).mono b3.size)
  have i12 := (i6.below H611).kept K12 (fun b off e => .inr (by have := (q6 b off e).1; omega))
  have o12 : OwnL w12 w5.heap.size (.slice a6 L.length c6) L := ((o6.below H611).kept K12 (fun b hb => .inr (by omega)))
  have r12 : COwn w12 w4.heap.size t5 m T5 (fun i => (C i).n) := r11.kept K12 (fun b hb => .inr hb)
  have ht5 := r5.top
  have s512 : w5.heap.size ≤ w12.heap.size := Nat.le_trans H511.size K12.size
  clear hB4 hB5 hB6 hB7 hB8 hB9 hB10 hB11 H45 H48 H58 H59 H68 H510 H511 H411 H611 n4 n11 r5 r11 i8 i4 j5 j10 i6 B5 B6 B11 o6
  go_wp2_with fail
  refine (markCms_any t5 m w4.heap.size w5.heap.size k12 T5 _ _ r12 hml hms ht5.1 ht5.2 hk12 hk12').mono ?_
  rintro e w13 ⟨k13, rfl, hk13, hk13', K13⟩
  have s312 : w3.heap.size ≤ w12.heap.size := B12.size
  have B13 : Below w3.heap.size w3 w13 := B12.trans ((K13.mono (fun k (hk : k < w3.heap.size) => .inl (by omega))).below s312)
  have b13 : Below w.heap.size w w13 := b12.trans (((K13.mono (fun k (hk : k < w3.heap.size) => .inl (by omega))).below s312).mono b3.size)
  have i13 := i12.kept K13 (fun b off e => .inr (q6 b off e).1)
  have o13 : OwnL w13 w5.heap.size (.slice a6 L.length c6) L := o12.kept K13 (fun b hb => .inr hb)
  have hkn : decide ((k13 : Int) < 0) = false := by simp
  have H313 := i3.below B13
  clear K12 K13 i12 o12 r12 ht5
  go_wp2_with fail
  refine (eqStringS_same _ _ _ _ _ _ _ i13 H313).mono ?_
  rintro e w14 ⟨rfl, hB14⟩
  have b14 := b13.trans (hB14.mono b13.size)
  have B14 := B13.trans (hB14.mono B13.size)
  have o14 := o13.below hB14
  obtain ⟨n, hn⟩ : ∃ n, n = L.length := ⟨_, rfl⟩
  have HLL : Hid (L.length ≤ 1000000) := by show _ ≤ _; rw [HL.out]; exact omR_len D len C m
  clear hkn H313 i13 o13
  rw [← hn] at o14 i3 HLL ⊢
  have HN : Hid (n = L.length) := hn
  have o14' : w14.ownsRow w5.heap.size 9 1 (.slice a6 n c6) n (L.map encStr) := by have := o14; unfold OwnL at this; rw [← hn] at this; exact this
  clear hn o14
  go_wp2_with fail
  refine (markStringS_any a6 n c6 w5.heap.size (L.map encStr) 1 _ o14' (by omega) (by have := HLL.out; omega)).mono ?_
  rintro e w15 ⟨rfl, o15, hG15⟩
  have hrow : ∀ k, (Value.slice a6 n c6).ownBlock = some k → w5.heap.size ≤ k := fun k hk => (o14'.lt k hk).1
  have b15 := b14.grown hG15 b14.size (fun k hk => by have := hrow k hk; have := b5.size; omega)
  have B15 := B14.grown hG15 B14.size (fun k hk => by have := hrow k hk; omega)
  have i15 : IsStrs w15 a6 n c6 (fun i => mt (1 + i)) := by
    obtain ⟨a', cap', e', hI⟩ := strs_of_own (S := fun i => mt (1 + i)) o15 (fun i hi => marks_at hi)
    simp only [Value.slice.injEq, true_and] at e'
    obtain ⟨rfl, rfl⟩ := e'
    exact hI
  clear o14' hG15 hrow o15
  have hq1 : decide (((1 + n : Nat) : Int) < 0) = false := by simp; omega
  have hq2 : ((((1 + n : Nat) : Int)) != ((1 + n : Nat) : Int)) = false := by simp
  go_wp2_with fail
  refine (heldStringS_any a6 n c6 1 _ i15 (by omega) (by have := HLL.out; omega)).mono ?_
  rintro e w16 ⟨rfl, hB16⟩
  have b16 := b15.trans (hB16.mono b15.size)
  have B16 := B15.trans (hB16.mono B15.size)
  go_wp2_with fail
  refine (toNodeS_any a len cap D _ (h.below b16) hl hz).mono ?_
  rintro e w17 ⟨g17, G17, rfl, i17, hB17⟩
  have b17 := b16.trans (hB17.mono b16.size)
  have B17 := B16.trans (hB17.mono B16.size)
  have f17 : Fine (fun i => (D i).at (G17 i)) len := hf
  go_wp2_with fail
  refine (toCms_any u m uc C _ (hC.below b17) hml hms).mono ?_
  rintro e w18 ⟨t18, T18, rfl, j18, hB18⟩
  have b18 := b17.trans (hB18.mono b17.size)
  have B18 := B17.trans (hB18.mono B17.size)
  have cf18 : CFine (fun i => (C i).at (T18 i)) m := hCf
  go_wp2_with fail
  refine (implOmitted_any _ len len _ _ m m _ _ (i17.below hB18) f17 j18 cf18 (hP.below b18)).mono ?_
  rintro e w19 ⟨v19, rfl, o19, hB19⟩
  rw [omR_at D G17 len C T18 m, ← HL.out] at o19
  have b19 := b18.trans (hB19.mono b18.size)
  have B19 := B18.trans (hB19.mono B18.size)
  obtain ⟨a19, c19, rfl, i19, q19⟩ := o19.strs2
  rw [← HN.out] at i19 ⊢
  have H3 := i3.below B19
  clear o19 f17 cf18
  go_wp2_with fail
  refine (eqStringS_same _ _ _ _ _ _ _ i19 H3).mono ?_
  rintro e w20 ⟨rfl, hB20⟩
  have b20 := b19.trans (hB20.mono b19.size)
  have i20 := i15.below (hB16.trans ((hB17.trans ((hB18.trans ((hB19.trans (hB20.mono hB19.size)).mono hB18.size)).mono hB17.size)).mono hB16.size))
  go_wp2_with fail
  refine (heldStringS_any a6 n c6 1 _ i20 (by omega) (by have := HLL.out; omega)).mono ?_
  rintro e w21 ⟨rfl, hB21⟩
  go_wp2
  go_ret
  exact ⟨rfl, b20.trans (hB21.mono b20.size)⟩
end Go.Proofs.YtjhbccppihledaaGreatDoor
