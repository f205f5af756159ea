/-
  One op on a right disk: plainly, and the specification's. Conditions: the lists read, and are not huge.
-/
import Derived.Test.YtbohaefmokbgbaaDkCt
import Derived.Test.YtbohaefmokbgbaaDkSl
namespace Go.Proofs.Ytbohaefmokbgbaa
open Go.RowKit
set_option linter.unusedVariables false

/-- what is told of an op on a right disk -/
def actC (L : List Fl) (O : List Dop) (o : Dop) : Nat := if formB o = false then 2 else if (doF L o).2 = false then 3 else if O.length = 200 ∨ filesB (doF L o).1 = false then 4 else 0
def actL (L : List Fl) (O : List Dop) (o : Dop) : List Fl := if actC L O o = 0 then (doF L o).1 else L
def actO (L : List Fl) (O : List Dop) (o : Dop) : List Dop := if actC L O o = 0 then O ++ [o] else O
theorem act_no {L : List Fl} {O : List Dop} {o : Dop} {c : Nat} (h : actC L O o = c) (hc : c ≠ 0) : actL L O o = L ∧ actO L O o = O := by
  unfold actL actO
  rw [if_neg (by rw [h]; exact hc), if_neg (by rw [h]; exact hc)]
  exact ⟨rfl, rfl⟩
theorem act_yes {L : List Fl} {O : List Dop} {o : Dop} (h : actC L O o = 0) : actL L O o = (doF L o).1 ∧ actO L O o = O ++ [o] := by
  unfold actL actO
  rw [if_pos h, if_pos h]
  exact ⟨rfl, rfl⟩
theorem HoldO.row {w : World} {base : Nat} {v : Value} {O : List Dop} (h : HoldO w base v O) : w.ownsRow base 49 4 v O.length (cellsO O) := by
  obtain ⟨hr, xs, hx⟩ := h
  have hxl := hx.1
  suffices hh : xs = cellsO O by rw [← hh]; exact hx
  apply List.ext_getElem?
  intro j
  by_cases hj : j < O.length * 4
  · obtain ⟨i, t, ht, rfl⟩ : ∃ i t, t < 4 ∧ j = i * 4 + t := ⟨j / 4, j % 4, Nat.mod_lt _ (by decide), by omega⟩
    have hi : i < O.length := by omega
    rw [cellsO_at O i t ht hi]
    obtain ⟨a, cap, rfl, h1, h2, h3⟩ := hr
    obtain ⟨b, off, rfl, hb, hc⟩ := h3 (by omega)
    rcases hx.2 with ⟨e, _⟩ | ⟨g, cap', cur, hv, _⟩
    · cases e
    · have hbo : b = g ∧ off = 0 := by
        simp only [Value.slice.injEq, Option.some.injEq, Addr.mk.injEq] at hv
        exact ⟨hv.1.1, hv.1.2.1⟩
      obtain ⟨rfl, rfl⟩ := hbo
      have := hc i hi t ht
      rw [Nat.zero_add, World.ownsRow.cellAt hx _ (by omega)] at this
      exact this
  · rw [List.getElem?_eq_none (by omega), List.getElem?_eq_none (by rw [cellsO_len]; omega)]

theorem row3 (a b c : Option Addr) (i j k l m n : Nat) : ∃ q : Array Value, q = #[Value.slice a i j, .slice b k l, .slice c m n] ∧ (Try.prog.info? 27).map (·.size) = some q.size ∧ (#[Value.slice none 0 0, .slice none 0 0, .slice none 0 0] : Array Value).size = q.size ∧ q.all (·.oneCell') = true :=
  ⟨_, rfl, infoDk, rfl, by simp [Value.oneCell']⟩
theorem results_row_tmp {P : Program} {fn : Func} {p u : Tmp} {ty : TypeId} (h : fn.results = #[.cell p ty, .tmp u]) (tmps : Array Value) (w : World) (g : Nat) (t : TypeId) (cs : Array Value) (fr : Nat × Nat) (d : TypeDesc)
    (hp : tmps.getD p undef = .pointer (some ⟨g, 0, none⟩)) (hg : w.heap[g]? = some (.cells cs t fr))
    (hu : P.underlying ty = some d) (hd : (match d with | .struct _ | .array _ _ => true | _ => false) = true) (hi : (P.info? ty).map (·.size) = some cs.size) :
    (results fn tmps).run P w = .ok (.tuple #[.agg cs, tmps.getD u undef]) w := by
  rw [results_cell_tmp h, hp]
  simp [asAddr, run_loadVar_row w g t ty cs fr d hg hu hd hi, Result.andThen]

set_option maxRecDepth 10000 in
set_option maxHeartbeats 4000000 in
theorem specAct_any (vL vS vO : Value) (L S : List Fl) (O : List Dop) (o : Dop) (w : World) (h : RdD w vL vS vO L S O) (hz : SmallD L S O) (hn : L.length ≤ 1048576 ∧ S.length ≤ 1048576 ∧ O.length ≤ 1048576) (hl6 : L.length ≤ 60 ∧ tot L ≤ 200000) (ho : o.n.size ≤ 100000000 ∧ o.t.size ≤ 100000000 ∧ o.d.size ≤ 100000000) :
    Calls Try.prog 37 #[.agg #[vL, vS, vO], .agg (encO o)] w fun e w' => ∃ x y z, e = .returned (.tuple #[.agg #[x, y, z], .int .i64 (actC L O o : Int)]) ∧ RdD w' x y z (actL L O o) S (actO L O o) ∧ Below w.heap.size w w' := by
  have HN : Hid (L.length ≤ 1048576 ∧ S.length ≤ 1048576 ∧ O.length ≤ 1048576) := hn
  have HZ : Hid (SmallD L S O) := hz
  have HL6 : Hid (L.length ≤ 60 ∧ tot L ≤ 200000) := hl6
  have HOZ : Hid (o.n.size ≤ 100000000 ∧ o.t.size ≤ 100000000 ∧ o.d.size ≤ 100000000) := ho
  have HA : Hid (∀ w', Below w.heap.size w w' → RdD w' vL vS vO L S O) := fun w' hB => h.below hB
  obtain ⟨aL, cL, rfl⟩ := h.1.slice
  obtain ⟨aS, cS, rfl⟩ := h.2.1.slice
  obtain ⟨aO, cO, rfl⟩ := h.2.2.slice
  clear h hz hn hl6 ho
  change Calls _ _ #[.agg #[.slice aL L.length cL, .slice aS S.length cS, .slice aO O.length cO], .agg #[.int .i64 o.k, .string o.n, .string o.t, .string o.d]] w _
  obtain ⟨X, hX⟩ : ∃ X, X = ((w.alloc (.cells #[.slice aL L.length cL, .slice aS S.length cS, .slice aO O.length cO] 27)).alloc (.cells #[.int .i64 o.k, .string o.n, .string o.t, .string o.d] 49)).alloc (.cells #[.slice none 0 0, .slice none 0 0, .slice none 0 0] 27) := ⟨_, rfl⟩
  have hBX : Below w.heap.size w X := by rw [hX]; exact (((Below.refl _ _).alloc (Nat.le_refl _) _).alloc (by simp) _).alloc (by simp; omega) _
  have gX : X.heap[w.heap.size]? = some (.cells #[.slice aL L.length cL, .slice aS S.length cS, .slice aO O.length cO] 27 (0, 0)) := by rw [hX, Below.heap_alloc _ _ _ (by simp; omega), Below.heap_alloc _ _ _ (by simp)]; exact heap_alloc_new _ _
  have gO : X.heap[w.heap.size + 1]? = some (.cells #[.int .i64 o.k, .string o.n, .string o.t, .string o.d] 49 (0, 0)) := by
    rw [hX, Below.heap_alloc _ _ _ (by simp)]
    have := heap_alloc_new (w.alloc (.cells #[.slice aL L.length cL, .slice aS S.length cS, .slice aO O.length cO] 27)) (.cells #[.int .i64 o.k, .string o.n, .string o.t, .string o.d] 49)
    simpa using this
  have gR : X.heap[w.heap.size + 1 + 1]? = some (.cells #[.slice none 0 0, .slice none 0 0, .slice none 0 0] 27 (0, 0)) := by
    rw [hX]
    have := heap_alloc_new ((w.alloc (.cells #[.slice aL L.length cL, .slice aS S.length cS, .slice aO O.length cO] 27)).alloc (.cells #[.int .i64 o.k, .string o.n, .string o.t, .string o.d] 49)) (.cells #[.slice none 0 0, .slice none 0 0, .slice none 0 0] 27)
    simpa using this
  have HX := (show Hid _ from hX)
  have HBX : Hid (Below w.heap.size w X) := hBX
  have HG : Hid (∀ w', Below X.heap.size X w' → At3 w' w.heap.size 27 (.slice aL L.length cL) (.slice aS S.length cS) (.slice aO O.length cO) ∧ w'.heap[w.heap.size + 1]? = some (.cells #[.int .i64 o.k, .string o.n, .string o.t, .string o.d] 49 (0, 0)) ∧ At3 w' (w.heap.size + 1 + 1) 27 (.slice none 0 0) (.slice none 0 0) (.slice none 0 0) ∧ Below w.heap.size w w') := fun w' hB => ⟨(hB.block _ (lt_of_block gX)).trans gX, (hB.block _ (lt_of_block gO)).trans gO, (hB.block _ (lt_of_block gR)).trans gR, hBX.trans (hB.mono hBX.size)⟩
  have k0 : X.cell? ⟨w.heap.size + 1, 0, none⟩ = some (.int .i64 o.k) := cellN gO
  have k1 : X.cell? ⟨w.heap.size + 1, 1, none⟩ = some (.string o.n) := cellN gO
  have k2 : X.cell? ⟨w.heap.size + 1, 2, none⟩ = some (.string o.t) := cellN gO
  have k3 : X.cell? ⟨w.heap.size + 1, 3, none⟩ = some (.string o.d) := cellN gO
  rw [hX] at k0 k1 k2 k3
  clear hX hBX gX gO gR
  go_enter Try.func37, Try.ntmps37
  go_wp2_with fail
  rw [← HX.out]
  refine (form_any o X (by have := HOZ.out; omega) (by have := HOZ.out; omega)).mono ?_
  rintro e w1 ⟨rfl, hB1⟩
  have HB1 : Hid (Below X.heap.size X w1) := hB1
  clear k0 k1 k2 k3 HX hB1
  have hg1 := HG.out w1 HB1.out
  have c0 := hg1.1.c0
  have c1 := hg1.1.c1
  have c2 := hg1.1.c2
  cases hf : formB o with
  | false =>
    have HC : Hid (actC L O o = 2) := by show _ = _; unfold actC; rw [if_pos hf]
    clear hf hg1
    go_wp2_with fail
    refine (specCopy_any _ _ _ L S O w1 (HA.out w1 (HG.out w1 HB1.out).2.2.2) HN.out).mono ?_
    rintro e wc ⟨x, y, z, rfl, hr, hh, hBc⟩
    obtain ⟨b1, d1, b2, d2, b3, d3, ex, ey, ez⟩ := hr.slices
    subst ex ey ez
    have HBc : Hid (Below X.heap.size X wc) := HB1.out.trans (hBc.mono HB1.out.size)
    have HHc : Hid _ := hh
    have HR3 : Hid (At3 wc (w.heap.size + 1 + 1) 27 (.slice none 0 0) (.slice none 0 0) (.slice none 0 0)) := (HG.out wc HBc.out).2.2.1
    have HLT : Hid (w.heap.size + 1 + 1 < w1.heap.size) := (HG.out w1 HB1.out).2.2.1.lt
    obtain ⟨q, hq⟩ : ∃ q, q = #[Value.slice b1 L.length d1, .slice b2 S.length d2, .slice b3 O.length d3] := ⟨_, rfl⟩
    have hi6 : (Try.prog.info? 27).map (·.size) = some q.size := by rw [hq]; exact infoDk
    have ho6 : (#[Value.slice none 0 0, .slice none 0 0, .slice none 0 0] : Array Value).size = q.size := by rw [hq]; rfl
    have h16 : q.all (·.oneCell') = true := by rw [hq]; simp [Value.oneCell']
    clear hr hh hBc
    go_wp2_with (refine wpList_store_row rfl 27 _ _ rfl (w.heap.size + 1 + 1) q rfl (congrArg Value.agg hq.symm) 27 _ HR3.out hi6 ho6 h16 ?_)
    subst hq
    have hkz : ∀ k, w1.heap.size ≤ k → k < wc.heap.size → (wc.setRow (w.heap.size + 1 + 1) #[Value.slice b1 L.length d1, .slice b2 S.length d2, .slice b3 O.length d3]).heap[k]? = wc.heap[k]? := fun k h1 h2 => setRow_other _ _ _ _ (by have := HLT.out; omega)
    have hszz : wc.heap.size ≤ (wc.setRow (w.heap.size + 1 + 1) #[Value.slice b1 L.length d1, .slice b2 S.length d2, .slice b3 O.length d3]).heap.size := by simp [World.setRow]
    refine bodyPost_ret (v := .tuple #[.agg #[Value.slice b1 L.length d1, .slice b2 S.length d2, .slice b3 O.length d3], _]) (results_row_tmp rfl _ _ (w.heap.size + 1 + 1) 27 _ _ _ rfl (setRow_heap _ _ _ _ _ _ HR3.out) Try.underlying27 rfl hi6) rfl ⟨_, _, _, ret_val (by rw [HC.out]; rfl), ?_, ?_⟩
    · rw [(act_no HC.out (by decide)).1, (act_no HC.out (by decide)).2]
      exact ⟨(HHc.out.1.kept hszz hkz).1, (HHc.out.2.1.kept hszz hkz).1, (HHc.out.2.2.kept hszz hkz).1⟩
    · exact below_setRow (HG.out wc HBc.out).2.2.2 (by omega) _
  | true =>
    have HF : Hid (formB o = true) := hf
    have k0 : w1.cell? ⟨w.heap.size + 1, 0, none⟩ = some (.int .i64 o.k) := cellN hg1.2.1
    have k1 : w1.cell? ⟨w.heap.size + 1, 1, none⟩ = some (.string o.n) := cellN hg1.2.1
    have k2 : w1.cell? ⟨w.heap.size + 1, 2, none⟩ = some (.string o.t) := cellN hg1.2.1
    have k3 : w1.cell? ⟨w.heap.size + 1, 3, none⟩ = some (.string o.d) := cellN hg1.2.1
    clear hf hg1
    go_wp2_with fail
    refine (do_any _ L o w1 (HA.out w1 (HG.out w1 HB1.out).2.2.2).1 (by have := HL6.out; omega) (fun f hf => by have := tot_mem hf; have := HL6.out; have := HOZ.out; omega)).mono ?_
    rintro e w2 ⟨u, rfl, hu, hun, hB2⟩
    have HB2 : Hid (Below X.heap.size X w2) := HB1.out.trans (hB2.mono HB1.out.size)
    have HU2 : Hid (OwnF w2 w1.heap.size u (doF L o).1) := hu
    have HS12 : Hid (w1.heap.size ≤ w2.heap.size) := hB2.size
    obtain ⟨au, cu, eu⟩ := hu.rd.slice
    subst eu
    clear k0 k1 k2 k3 c0 c1 c2 hu hun hB2
    have hg2 := HG.out w2 HB2.out
    have c0 := hg2.1.c0
    have c1 := hg2.1.c1
    have c2 := hg2.1.c2
    clear hg2
    cases hd : (doF L o).2 with
    | false =>
      have HC : Hid (actC L O o = 3) := by show _ = _; unfold actC; rw [if_neg (by rw [HF.out]; decide), if_pos hd]
      clear hd
      go_wp2_with fail
      refine (specCopy_any _ _ _ L S O w2 (HA.out w2 (HG.out w2 HB2.out).2.2.2) HN.out).mono ?_
      rintro e wc ⟨x, y, z, rfl, hr, hh, hBc⟩
      obtain ⟨b1, d1, b2, d2, b3, d3, ex, ey, ez⟩ := hr.slices
      subst ex ey ez
      have HBc : Hid (Below X.heap.size X wc) := HB2.out.trans (hBc.mono HB2.out.size)
      have HHc : Hid _ := hh
      have HR3 : Hid (At3 wc (w.heap.size + 1 + 1) 27 (.slice none 0 0) (.slice none 0 0) (.slice none 0 0)) := (HG.out wc HBc.out).2.2.1
      have HLT : Hid (w.heap.size + 1 + 1 < w2.heap.size) := (HG.out w2 HB2.out).2.2.1.lt
      obtain ⟨q, hq⟩ : ∃ q, q = #[Value.slice b1 L.length d1, .slice b2 S.length d2, .slice b3 O.length d3] := ⟨_, rfl⟩
      have hi6 : (Try.prog.info? 27).map (·.size) = some q.size := by rw [hq]; exact infoDk
      have ho6 : (#[Value.slice none 0 0, .slice none 0 0, .slice none 0 0] : Array Value).size = q.size := by rw [hq]; rfl
      have h16 : q.all (·.oneCell') = true := by rw [hq]; simp [Value.oneCell']
      clear hr hh hBc
      go_wp2_with (refine wpList_store_row rfl 27 _ _ rfl (w.heap.size + 1 + 1) q rfl (congrArg Value.agg hq.symm) 27 _ HR3.out hi6 ho6 h16 ?_)
      subst hq
      have hkz : ∀ k, w2.heap.size ≤ k → k < wc.heap.size → (wc.setRow (w.heap.size + 1 + 1) #[Value.slice b1 L.length d1, .slice b2 S.length d2, .slice b3 O.length d3]).heap[k]? = wc.heap[k]? := fun k h1 h2 => setRow_other _ _ _ _ (by have := HLT.out; omega)
      have hszz : wc.heap.size ≤ (wc.setRow (w.heap.size + 1 + 1) #[Value.slice b1 L.length d1, .slice b2 S.length d2, .slice b3 O.length d3]).heap.size := by simp [World.setRow]
      refine bodyPost_ret (v := .tuple #[.agg #[Value.slice b1 L.length d1, .slice b2 S.length d2, .slice b3 O.length d3], _]) (results_row_tmp rfl _ _ (w.heap.size + 1 + 1) 27 _ _ _ rfl (setRow_heap _ _ _ _ _ _ HR3.out) Try.underlying27 rfl hi6) rfl ⟨_, _, _, ret_val (by rw [HC.out]; rfl), ?_, ?_⟩
      · rw [(act_no HC.out (by decide)).1, (act_no HC.out (by decide)).2]
        exact ⟨(HHc.out.1.kept hszz hkz).1, (HHc.out.2.1.kept hszz hkz).1, (HHc.out.2.2.kept hszz hkz).1⟩
      · exact below_setRow (HG.out wc HBc.out).2.2.2 (by omega) _
    | true =>
      have HDO : Hid ((doF L o).2 = true) := hd
      clear hd
      by_cases h200 : O.length = 200
      · have h200b : ((O.length : Int) == 200) = true := by simp; omega
        have HC : Hid (actC L O o = 4) := by show _ = _; unfold actC; rw [if_neg (by rw [HF.out]; decide), if_neg (by rw [HDO.out]; decide), if_pos (.inl h200)]
        clear h200
        go_wp2_with fail
        refine (specCopy_any _ _ _ L S O w2 (HA.out w2 (HG.out w2 HB2.out).2.2.2) HN.out).mono ?_
        rintro e wc ⟨x, y, z, rfl, hr, hh, hBc⟩
        obtain ⟨b1, d1, b2, d2, b3, d3, ex, ey, ez⟩ := hr.slices
        subst ex ey ez
        have HBc : Hid (Below X.heap.size X wc) := HB2.out.trans (hBc.mono HB2.out.size)
        have HHc : Hid _ := hh
        have HR3 : Hid (At3 wc (w.heap.size + 1 + 1) 27 (.slice none 0 0) (.slice none 0 0) (.slice none 0 0)) := (HG.out wc HBc.out).2.2.1
        have HLT : Hid (w.heap.size + 1 + 1 < w2.heap.size) := (HG.out w2 HB2.out).2.2.1.lt
        obtain ⟨q, hq⟩ : ∃ q, q = #[Value.slice b1 L.length d1, .slice b2 S.length d2, .slice b3 O.length d3] := ⟨_, rfl⟩
        have hi6 : (Try.prog.info? 27).map (·.size) = some q.size := by rw [hq]; exact infoDk
        have ho6 : (#[Value.slice none 0 0, .slice none 0 0, .slice none 0 0] : Array Value).size = q.size := by rw [hq]; rfl
        have h16 : q.all (·.oneCell') = true := by rw [hq]; simp [Value.oneCell']
        clear hr hh hBc
        go_wp2_with (refine wpList_store_row rfl 27 _ _ rfl (w.heap.size + 1 + 1) q rfl (congrArg Value.agg hq.symm) 27 _ HR3.out hi6 ho6 h16 ?_)
        subst hq
        have hkz : ∀ k, w2.heap.size ≤ k → k < wc.heap.size → (wc.setRow (w.heap.size + 1 + 1) #[Value.slice b1 L.length d1, .slice b2 S.length d2, .slice b3 O.length d3]).heap[k]? = wc.heap[k]? := fun k h1 h2 => setRow_other _ _ _ _ (by have := HLT.out; omega)
        have hszz : wc.heap.size ≤ (wc.setRow (w.heap.size + 1 + 1) #[Value.slice b1 L.length d1, .slice b2 S.length d2, .slice b3 O.length d3]).heap.size := by simp [World.setRow]
        refine bodyPost_ret (v := .tuple #[.agg #[Value.slice b1 L.length d1, .slice b2 S.length d2, .slice b3 O.length d3], _]) (results_row_tmp rfl _ _ (w.heap.size + 1 + 1) 27 _ _ _ rfl (setRow_heap _ _ _ _ _ _ HR3.out) Try.underlying27 rfl hi6) rfl ⟨_, _, _, ret_val (by rw [HC.out]; rfl), ?_, ?_⟩
        · rw [(act_no HC.out (by decide)).1, (act_no HC.out (by decide)).2]
          exact ⟨(HHc.out.1.kept hszz hkz).1, (HHc.out.2.1.kept hszz hkz).1, (HHc.out.2.2.kept hszz hkz).1⟩
        · exact below_setRow (HG.out wc HBc.out).2.2.2 (by omega) _
      · have h200b : ((O.length : Int) == 200) = false := by simp; omega
        have HN2 : Hid (O.length ≠ 200) := h200
        clear h200
        go_wp2_with fail
        refine (files_any _ (doF L o).1 w2 HU2.out.rd (by have := doF_small (K := L) (o := o) (z := 100000000) HZ.out.l2 HOZ.out.1 HOZ.out.2.1; have := HL6.out; have := HOZ.out; omega) (small_at (doF_small (K := L) (o := o) (z := 100000000) HZ.out.l2 HOZ.out.1 HOZ.out.2.1).1 (by omega))).mono ?_
        rintro e w3 ⟨rfl, hB3⟩
        have HB3 : Hid (Below X.heap.size X w3) := HB2.out.trans (hB3.mono HB2.out.size)
        have HS13 : Hid (w1.heap.size ≤ w3.heap.size) := Nat.le_trans HS12.out hB3.size
        have HU3 : Hid (HoldF w3 w1.heap.size (.slice au (doF L o).1.length cu) (doF L o).1) := HU2.out.hold.below hB3
        clear hB3 c0 c1 c2 h200b
        have hg3 := HG.out w3 HB3.out
        have c0 := hg3.1.c0
        have c1 := hg3.1.c1
        have c2 := hg3.1.c2
        clear hg3
        cases hfb : filesB (doF L o).1 with
        | false =>
          have HC : Hid (actC L O o = 4) := by show _ = _; unfold actC; rw [if_neg (by rw [HF.out]; decide), if_neg (by rw [HDO.out]; decide), if_pos (.inr hfb)]
          clear hfb
          go_wp2_with fail
          refine (specCopy_any _ _ _ L S O w3 (HA.out w3 (HG.out w3 HB3.out).2.2.2) HN.out).mono ?_
          rintro e wc ⟨x, y, z, rfl, hr, hh, hBc⟩
          obtain ⟨b1, d1, b2, d2, b3, d3, ex, ey, ez⟩ := hr.slices
          subst ex ey ez
          have HBc : Hid (Below X.heap.size X wc) := HB3.out.trans (hBc.mono HB3.out.size)
          have HHc : Hid _ := hh
          have HR3 : Hid (At3 wc (w.heap.size + 1 + 1) 27 (.slice none 0 0) (.slice none 0 0) (.slice none 0 0)) := (HG.out wc HBc.out).2.2.1
          have HLT : Hid (w.heap.size + 1 + 1 < w3.heap.size) := (HG.out w3 HB3.out).2.2.1.lt
          obtain ⟨q, hq⟩ : ∃ q, q = #[Value.slice b1 L.length d1, .slice b2 S.length d2, .slice b3 O.length d3] := ⟨_, rfl⟩
          have hi6 : (Try.prog.info? 27).map (·.size) = some q.size := by rw [hq]; exact infoDk
          have ho6 : (#[Value.slice none 0 0, .slice none 0 0, .slice none 0 0] : Array Value).size = q.size := by rw [hq]; rfl
          have h16 : q.all (·.oneCell') = true := by rw [hq]; simp [Value.oneCell']
          clear hr hh hBc
          go_wp2_with (refine wpList_store_row rfl 27 _ _ rfl (w.heap.size + 1 + 1) q rfl (congrArg Value.agg hq.symm) 27 _ HR3.out hi6 ho6 h16 ?_)
          subst hq
          have hkz : ∀ k, w3.heap.size ≤ k → k < wc.heap.size → (wc.setRow (w.heap.size + 1 + 1) #[Value.slice b1 L.length d1, .slice b2 S.length d2, .slice b3 O.length d3]).heap[k]? = wc.heap[k]? := fun k h1 h2 => setRow_other _ _ _ _ (by have := HLT.out; omega)
          have hszz : wc.heap.size ≤ (wc.setRow (w.heap.size + 1 + 1) #[Value.slice b1 L.length d1, .slice b2 S.length d2, .slice b3 O.length d3]).heap.size := by simp [World.setRow]
          refine bodyPost_ret (v := .tuple #[.agg #[Value.slice b1 L.length d1, .slice b2 S.length d2, .slice b3 O.length d3], _]) (results_row_tmp rfl _ _ (w.heap.size + 1 + 1) 27 _ _ _ rfl (setRow_heap _ _ _ _ _ _ HR3.out) Try.underlying27 rfl hi6) rfl ⟨_, _, _, ret_val (by rw [HC.out]; rfl), ?_, ?_⟩
          · rw [(act_no HC.out (by decide)).1, (act_no HC.out (by decide)).2]
            exact ⟨(HHc.out.1.kept hszz hkz).1, (HHc.out.2.1.kept hszz hkz).1, (HHc.out.2.2.kept hszz hkz).1⟩
          · exact below_setRow (HG.out wc HBc.out).2.2.2 (by omega) _
        | true =>
          have HC : Hid (actC L O o = 0) := by show _ = _; unfold actC; rw [if_neg (by rw [HF.out]; decide), if_neg (by rw [HDO.out]; decide), if_neg (fun h => h.elim HN2.out (fun h => by rw [hfb] at h; cases h))]
          clear hfb
          go_wp2_with fail
          refine (specCopy_any _ _ _ L S O w3 (HA.out w3 (HG.out w3 HB3.out).2.2.2) HN.out).mono ?_
          rintro e w4 ⟨x, y, z, rfl, hr, hh, hB4⟩
          obtain ⟨b1, d1, b2, d2, b3, d3, ex, ey, ez⟩ := hr.slices
          subst ex ey ez
          have HB4 : Hid (Below X.heap.size X w4) := HB3.out.trans (hB4.mono HB3.out.size)
          have HU4 : Hid (HoldF w4 w1.heap.size (.slice au (doF L o).1.length cu) (doF L o).1) := HU3.out.below hB4
          have hS34 : w3.heap.size ≤ w4.heap.size := hB4.size
          have HH4 : Hid (HoldF w4 w3.heap.size (.slice b1 L.length d1) L ∧ HoldF w4 w3.heap.size (.slice b2 S.length d2) S ∧ HoldO w4 w3.heap.size (.slice b3 O.length d3) O) := hh
          clear hr hh hB4 c0 c1 c2
          obtain ⟨X5, hX5⟩ : ∃ X5, X5 = w4.alloc (.cells #[.slice au (doF L o).1.length cu, .slice b2 S.length d2, .slice b3 O.length d3] 27) := ⟨_, rfl⟩
          have hB5 : Below w4.heap.size w4 X5 := by rw [hX5]; exact (Below.refl _ _).alloc (Nat.le_refl _) _
          have HX5 := (show Hid _ from hX5)
          have HBX5 : Hid (Below X.heap.size X X5) := HB4.out.trans (hB5.mono HB4.out.size)
          have HO5 : Hid (At3 X5 w4.heap.size 27 (.slice au (doF L o).1.length cu) (.slice b2 S.length d2) (.slice b3 O.length d3)) := by rw [hX5]; exact At3.new _ _ _ _ _
          have HU5 : Hid (HoldF X5 w1.heap.size (.slice au (doF L o).1.length cu) (doF L o).1) := HU4.out.below hB5
          have HH5 : Hid (HoldF X5 w3.heap.size (.slice b2 S.length d2) S ∧ HoldO X5 w3.heap.size (.slice b3 O.length d3) O) := ⟨HH4.out.2.1.below hB5, HH4.out.2.2.below hB5⟩
          have k0 : X5.cell? ⟨w.heap.size + 1, 0, none⟩ = some (.int .i64 o.k) := cellN (HG.out X5 HBX5.out).2.1
          have k1 : X5.cell? ⟨w.heap.size + 1, 1, none⟩ = some (.string o.n) := cellN (HG.out X5 HBX5.out).2.1
          have k2 : X5.cell? ⟨w.heap.size + 1, 2, none⟩ = some (.string o.t) := cellN (HG.out X5 HBX5.out).2.1
          have k3 : X5.cell? ⟨w.heap.size + 1, 3, none⟩ = some (.string o.d) := cellN (HG.out X5 HBX5.out).2.1
          rw [hX5] at k0 k1 k2 k3
          have HOx : Hid (∀ oo, ((w4.alloc (.cells #[.slice au (doF L o).1.length cu, .slice b2 S.length d2, .slice b3 O.length d3] 27)).alloc oo).ownsRow w3.heap.size 49 4 (.slice b3 O.length d3) O.length (cellsO O)) := fun oo => by
            rw [← hX5]
            exact ownsRow_below HH5.out.2.row ((Below.refl _ _).alloc (Nat.le_refl _) _)
          have HMX : Hid (O.length + 1 ≤ maxLen ∧ (O.length + 1) * 56 ≤ 140737488355328 ∧ w3.heap.size ≤ w4.heap.size) := ⟨by have := HN.out; unfold maxLen; omega, by have := HN.out; omega, hS34⟩
          have HFIN : Hid (∀ oo v7 w7, w7.ownsRow w3.heap.size 49 4 v7 (O.length + 1) (cellsO O ++ [.int .i64 o.k, .string o.n, .string o.t, .string o.d]) → (X5.alloc oo).grownBy w7 (Value.slice b3 O.length d3).ownBlock → HoldF w7 w1.heap.size (.slice au (doF L o).1.length cu) (doF L o).1 ∧ HoldF w7 w3.heap.size (.slice b2 S.length d2) S ∧ HoldO w7 w3.heap.size v7 (O ++ [o]) ∧ At3 w7 w4.heap.size 27 (.slice au (doF L o).1.length cu) (.slice b2 S.length d2) (.slice b3 O.length d3) ∧ At3 w7 (w.heap.size + 1 + 1) 27 (.slice none 0 0) (.slice none 0 0) (.slice none 0 0) ∧ Below w.heap.size w w7) := fun oo v7 w7 hown hgrow => by
            have hbx : Below X5.heap.size X5 (X5.alloc oo) := (Below.refl _ _).alloc (Nat.le_refl _) _
            have hz : ∀ b, (Value.slice b3 O.length d3).ownBlock = some b → w3.heap.size ≤ b ∧ b < w4.heap.size := fun b hb => HH4.out.2.2.2.lt b hb
            have hty : ∀ b, (Value.slice b3 O.length d3).ownBlock = some b → ∃ cs, (X5.alloc oo).heap[b]? = some (.cells cs 49 (0, 0)) := fun b hb => (HH5.out.2.2.below hbx).cells hb
            have nf : ∀ (base : Nat) (v : Value) (M : List Fl), HoldF X5 base v M → HoldF w7 base v M := fun base v M hv => by
              have hv' := hv.below hbx
              refine ⟨hv'.1.own hv'.2 hgrow.size (fun k hk => hgrow.block k (hv'.2.lt k hk).2 (fun e => ?_)), hv'.2.blk (fun k hk => hgrow.block k (hv'.2.lt k hk).2 (fun e => ?_))⟩
              · exact OwA24 hv'.2 (HH5.out.2.2.below hbx) hk e.symm
              · exact OwA24 hv'.2 (HH5.out.2.2.below hbx) hk e.symm
            have hg5 := HG.out X5 HBX5.out
            refine ⟨nf _ _ _ HU5.out, nf _ _ _ HH5.out.1, ?_, ?_, ?_, ?_⟩
            · have hco : cellsO (O ++ [o]) = cellsO O ++ [.int .i64 o.k, .string o.n, .string o.t, .string o.d] := by rw [cellsO_append]; rfl
              have hrow : w7.ownsRow w3.heap.size 49 4 v7 (O ++ [o]).length (cellsO (O ++ [o])) := by rw [hco, List.length_append]; exact hown
              exact ⟨rdO_of hrow, ⟨_, hrow⟩⟩
            · refine (hgrow.block _ (HO5.out.below hbx).lt (fun e => ?_)).trans (HO5.out.below hbx)
              have := hz _ e.symm; omega
            · refine (hgrow.block _ (hg5.2.2.1.below hbx).lt (fun e => ?_)).trans (hg5.2.2.1.below hbx)
              obtain ⟨cs, hcs⟩ := hty _ e.symm
              have h3 := hg5.2.2.1.below hbx
              unfold At3 at h3
              rw [h3] at hcs
              cases hcs
            · have hb := hg5.2.2.2.trans (hbx.mono hg5.2.2.2.size)
              refine hb.grown hgrow hb.size (fun x hx => ?_)
              have := (hz x hx).1
              have := (HG.out w3 HB3.out).2.2.2.size
              omega
          clear hX5 hB5
          obtain ⟨i0, hi, hz0, hz1, hz2⟩ := info_parts infoDOpT
          go_wp2_with (first | (at_builtin; refine wpList_append_own _ rfl _ _ 25 rfl w3.heap.size 49 i0 (.agg #[.int .i64 0, .string ⟨#[]⟩, .string ⟨#[]⟩, .string ⟨#[]⟩]) 4 56 Try.underlying25 hi hz0 hz1 hz2 rfl (by decide) _ O.length _ rfl (HOx.out _) ⟨w4.heap.size + 1, 0, none⟩ 1 1 [.int .i64 o.k, .string o.n, .string o.t, .string o.d] rfl rfl (by have := World.news_of_block (heap_alloc_new (w4.alloc (.cells #[.slice au (doF L o).1.length cu, .slice b2 S.length d2, .slice b3 O.length d3] 27)) (.cells #[.int .i64 o.k, .string o.n, .string o.t, .string o.d] 49)); simpa using this) (by simp [Value.oneCell']) HMX.out.1 HMX.out.2.1 (by simp; have := HMX.out.2.2; omega) ?_; intro v7 w7 hown7 hgrow7 hnil7; rw [← HX5.out] at hgrow7; have HE := (show Hid _ from HFIN.out _ v7 w7 hown7 hgrow7); obtain ⟨a7, c7, e7⟩ := HE.out.2.2.1.2.slice; rw [List.length_append] at e7; subst e7; clear hown7 hgrow7 hnil7; have f2 : w7.frozen? ⟨w4.heap.size, 2, none⟩ = false := frozN HE.out.2.2.2.1; have r0 := HE.out.2.2.2.1.c0; have r1 := HE.out.2.2.2.1.c1; have r2 := HE.out.2.2.2.1.c2; obtain ⟨q, hq, hi6, ho6, h16⟩ := row3 au b2 a7 (doF L o).1.length cu S.length d2 (O.length + 1) c7; have HLT : Hid (w.heap.size + 1 + 1 < w1.heap.size ∧ w1.heap.size ≤ w3.heap.size ∧ w3.heap.size ≤ w4.heap.size) := ⟨(HG.out w1 HB1.out).2.2.1.lt, HS13.out, HMX.out.2.2⟩; have HR7 : Hid ((w7.setCell ⟨w4.heap.size, 2, none⟩ (.slice a7 (O.length + 1) c7)).heap[w.heap.size + 1 + 1]? = some (.cells #[.slice none 0 0, .slice none 0 0, .slice none 0 0] 27 (0, 0))) := (Below.heap_setCell _ _ _ _ (by have := HLT.out; dsimp only; omega)).trans HE.out.2.2.2.2.1) | (refine wpList_store_row rfl 27 _ _ rfl (w.heap.size + 1 + 1) q rfl (congrArg Value.agg hq.symm) 27 _ HR7.out hi6 ho6 h16 ?_))
          subst hq
          have hw7 : ∀ k, k ≠ w4.heap.size → k ≠ w.heap.size + 1 + 1 → ((w7.setCell ⟨w4.heap.size, 2, none⟩ (.slice a7 (O.length + 1) c7)).setRow (w.heap.size + 1 + 1) #[Value.slice au (doF L o).1.length cu, .slice b2 S.length d2, .slice a7 (O.length + 1) c7]).heap[k]? = w7.heap[k]? := fun k h1 h2 => (setRow_other _ _ _ _ h2).trans (Below.heap_setCell _ _ _ _ h1)
          have hs7 : w7.heap.size ≤ ((w7.setCell ⟨w4.heap.size, 2, none⟩ (.slice a7 (O.length + 1) c7)).setRow (w.heap.size + 1 + 1) #[Value.slice au (doF L o).1.length cu, .slice b2 S.length d2, .slice a7 (O.length + 1) c7]).heap.size := by simp [World.setRow, World.setCell]
          refine bodyPost_ret (v := .tuple #[.agg #[.slice au (doF L o).1.length cu, .slice b2 S.length d2, .slice a7 (O.length + 1) c7], _]) (results_row_tmp rfl _ _ (w.heap.size + 1 + 1) 27 _ _ _ rfl (setRow_heap _ _ _ _ _ _ HR7.out) Try.underlying27 rfl hi6) rfl ⟨_, _, _, ret_val (by rw [HC.out]; rfl), ?_, ?_⟩
          · rw [(act_yes HC.out).1, (act_yes HC.out).2]
            have hlt := HLT.out
            have tA : ∀ (base : Nat) (v : Value) (M : List Fl), w1.heap.size ≤ base → HoldF w7 base v M → RdF ((w7.setCell ⟨w4.heap.size, 2, none⟩ (.slice a7 (O.length + 1) c7)).setRow (w.heap.size + 1 + 1) #[Value.slice au (doF L o).1.length cu, .slice b2 S.length d2, .slice a7 (O.length + 1) c7]) v M := fun base v M hb hv => hv.1.own hv.2 hs7 (fun k hk => hw7 k (fun e => by
              obtain ⟨cs, hcs⟩ := hv.2.cells hk
              have h4 := HE.out.2.2.2.1
              unfold At3 at h4
              rw [e, h4] at hcs
              cases hcs) (by have := (hv.2.lt k hk).1; omega))
            refine ⟨tA _ _ _ (Nat.le_refl _) HE.out.1, tA _ _ _ hlt.2.1 HE.out.2.1, ?_⟩
            have hv := HE.out.2.2.1
            exact hv.1.own hv.2 hs7 (fun k hk => hw7 k (fun e => by
              obtain ⟨cs, hcs⟩ := hv.2.cells hk
              have h4 := HE.out.2.2.2.1
              unfold At3 at h4
              rw [e, h4] at hcs
              cases hcs) (by have := (hv.2.lt k hk).1; omega))
          · have hlt := HLT.out
            have hsz := (HG.out w1 HB1.out).2.2.2.size
            exact below_setRow (HE.out.2.2.2.2.2.setCell (p := ⟨w4.heap.size, 2, none⟩) (by show w.heap.size ≤ w4.heap.size; omega) _) (by omega) _
end Go.Proofs.Ytbohaefmokbgbaa
