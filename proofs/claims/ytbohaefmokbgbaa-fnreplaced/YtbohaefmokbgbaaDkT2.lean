/-
  The laws' own functions over ops: their sizes, copies of them, holding two of them against each other. No condition but that the slices read.
-/
import Derived.Test.YtbohaefmokbgbaaDkT
namespace Go.Proofs.Ytbohaefmokbgbaa
open Go.RowKit
set_option linter.unusedVariables false

set_option maxHeartbeats 1000000 in
theorem szDOp_any (x : Dop) (hx : x.n.size ≤ 9223372036854775807 ∧ x.t.size ≤ 9223372036854775807 ∧ x.d.size ≤ 9223372036854775807) (w : World) (L : Int) (h0 : 0 ≤ L) (h1 : L ≤ 1048576) :
    Calls Try.prog 14 #[.agg #[.int .i64 x.k, .string x.n, .string x.t, .string x.d], .int .i64 L] w fun e w' => ∃ r : Int, e = .returned (.int .i64 r) ∧ (r < 0 ∨ (0 ≤ r ∧ r + ((x.n.size : Int) + (x.t.size : Int) + (x.d.size : Int)) = L)) ∧ Below w.heap.size w w' := by
  have HB : Hid (∀ o, Below w.heap.size w (w.alloc o)) := fun o => (Below.refl _ _).alloc (Nat.le_refl _) _
  obtain ⟨k0, k1, k2⟩ := hx
  obtain ⟨n0, e0⟩ : ∃ n, n = x.n.size := ⟨_, rfl⟩
  obtain ⟨n1, e1⟩ : ∃ n, n = x.t.size := ⟨_, rfl⟩
  obtain ⟨n2, e2⟩ : ∃ n, n = x.d.size := ⟨_, rfl⟩
  have HN : Hid (n0 = x.n.size ∧ n1 = x.t.size ∧ n2 = x.d.size) := ⟨e0, e1, e2⟩
  have i0 : (x.n.size : Int) = (n0 : Int) := by rw [e0]
  rw [← e0] at k0
  have i1 : (x.t.size : Int) = (n1 : Int) := by rw [e1]
  rw [← e1] at k1
  have i2 : (x.d.size : Int) = (n2 : Int) := by rw [e2]
  rw [← e2] at k2
  clear e0 e1 e2
  by_cases g0 : L - (n0 : Int) < 0
  · go_enter Try.func14, Try.ntmps14
    go_wp2
    go_ret
    exact ⟨_, rfl, .inl (by decide), HB.out _⟩
  by_cases g1 : L - (n0 : Int) - (n1 : Int) < 0
  · go_enter Try.func14, Try.ntmps14
    go_wp2
    go_ret
    exact ⟨_, rfl, .inl (by decide), HB.out _⟩
  by_cases g2 : L - (n0 : Int) - (n1 : Int) - (n2 : Int) < 0
  · go_enter Try.func14, Try.ntmps14
    go_wp2
    go_ret
    exact ⟨_, rfl, .inl (by decide), HB.out _⟩
  go_enter Try.func14, Try.ntmps14
  go_wp2
  go_ret
  exact ⟨_, rfl, .inr ⟨by omega, by omega⟩, HB.out _⟩


theorem infoDOpT : (Try.prog.info? 49).map (fun i => (i.zero, i.size, i.bytes)) = some (some (.agg #[.int .i64 0, .string ⟨#[]⟩, .string ⟨#[]⟩, .string ⟨#[]⟩]), 4, 56) := by kernel_rfl
theorem infoDOpK : (Try.prog.info? 49).map (·.size) = some 4 := by kernel_rfl
set_option maxHeartbeats 1000000 in
theorem toDOp_any (x : Dop) (w : World) :
    Calls Try.prog 17 #[.agg #[.int .i64 x.k, .string x.n, .string x.t, .string x.d]] w fun e w' => e = .returned (.agg #[.int .i64 x.k, .string x.n, .string x.t, .string x.d]) ∧ Below w.heap.size w w' := by
  have HB : Hid (∀ o o' o'', Below w.heap.size w (((w.alloc o).alloc o').alloc o'')) := fun o o' o'' => (((Below.refl _ _).alloc (Nat.le_refl _) _).alloc (by simp) _).alloc (by simp; omega) _
  go_enter Try.func17, Try.ntmps17
  have hh : ((((w.alloc (.cells #[.int .i64 x.k, .string x.n, .string x.t, .string x.d] 44)).alloc (.cells #[.int .i64 x.k, .string x.n, .string x.t, .string x.d] 49)).alloc (.cells #[.int .i64 x.k, .string x.n, .string x.t, .string x.d] 49)).heap[w.heap.size + 1]?) = some (.cells #[.int .i64 x.k, .string x.n, .string x.t, .string x.d] 49) := by
    rw [Below.heap_alloc _ _ _ (by simp)]
    have := heap_alloc_new (w.alloc (.cells #[.int .i64 x.k, .string x.n, .string x.t, .string x.d] 44)) (.cells #[.int .i64 x.k, .string x.n, .string x.t, .string x.d] 49)
    simpa using this
  have HH := (show Hid _ from hh)
  clear hh
  go_wp2
  exact bodyPost_ret (v := .agg #[.int .i64 x.k, .string x.n, .string x.t, .string x.d]) (results_cell_row rfl _ _ (w.heap.size + 1) 49 _ _ _ rfl HH.out Try.underlying49 rfl infoDOpK) rfl ⟨rfl, HB.out _ _ _⟩


set_option maxHeartbeats 1000000 in
theorem eqDOp_same (x : Dop) (w : World) :
    Calls Try.prog 83 #[.agg #[.int .i64 x.k, .string x.n, .string x.t, .string x.d], .agg #[.int .i64 x.k, .string x.n, .string x.t, .string x.d]] w fun e w' => e = .returned (.bool true) ∧ Below w.heap.size w w' := by
  have HB : Hid (∀ o o', Below w.heap.size w ((w.alloc o).alloc o')) := fun o o' => ((Below.refl _ _).alloc (Nat.le_refl _) _).alloc (by simp) _
  have e0 : (x.k != x.k) = false := by simp
  have e1 : (x.n.toList == x.n.toList) = true := by simp
  have e2 : (x.t.toList == x.t.toList) = true := by simp
  have e3 : (x.d.toList == x.d.toList) = true := by simp
  go_enter Try.func83, Try.ntmps83
  go_wp2
  go_ret
  exact ⟨rfl, HB.out _ _⟩


set_option maxHeartbeats 1000000 in
theorem szDOpS_any (v : Value) (L : List Dop) (w : World) (h : RdO w v L) (hF : ∀ f ∈ L, f.n.size ≤ 9223372036854775807 ∧ f.t.size ≤ 9223372036854775807 ∧ f.d.size ≤ 9223372036854775807) (M : Int) (hL0 : 0 ≤ M) (hL1 : M ≤ 1048576) :
    Calls Try.prog 46 #[v, .int .i64 M] w fun e w' => ∃ r : Int, e = .returned (.int .i64 r) ∧ (r < 0 ∨ (0 ≤ r ∧ r ≤ M ∧ L.length ≤ 1048576 ∧ (∀ j, j < L.length → (L.getD j dopZ).n.size ≤ 1048576 ∧ (L.getD j dopZ).t.size ≤ 1048576 ∧ (L.getD j dopZ).d.size ≤ 1048576))) ∧ Below w.heap.size w w' := by
  obtain ⟨a, cap, rfl, hlc, hcm, hc⟩ := h
  obtain ⟨len, hlen0⟩ : ∃ n, n = L.length := ⟨_, rfl⟩
  have HN : Hid (len = L.length) := hlen0
  rw [← hlen0] at hlc hc ⊢
  clear hlen0
  by_cases hneg : M - (len : Int) < 0
  · go_enter Try.func46, Try.ntmps46
    go_wp2
    go_ret
    exact ⟨_, rfl, .inl (by decide), Below.refl _ _⟩
  have hlen : len ≤ 1048576 := by omega
  have HF : Hid (∀ f ∈ L, f.n.size ≤ 9223372036854775807 ∧ f.t.size ≤ 9223372036854775807 ∧ f.d.size ≤ 9223372036854775807) := hF
  clear hF
  go_enter Try.func46, Try.ntmps46
  go_wp2
  go_loopw [1, 5] (fun x i wr => ∃ (k : Nat) (r : Int), k ≤ len ∧ i = .int .i64 k ∧ x = .int .i64 r ∧ 0 ≤ r ∧ r ≤ M ∧ Hid ((∀ j, j < k → (L.getD j dopZ).n.size ≤ 1048576 ∧ (L.getD j dopZ).t.size ≤ 1048576 ∧ (L.getD j dopZ).d.size ≤ 1048576)) ∧ Below w.heap.size w wr) (fun _ i _ => len - (intOf i).toNat)
  case atStart => exact ⟨0, _, Nat.zero_le _, rfl, rfl, by omega, by omega, (fun j hj => absurd hj (Nat.not_lt_zero _)), Below.refl _ _⟩
  case round =>
    obtain ⟨k, r, hk, rfl, rfl, hr0, hr1, HA, hB⟩ := hrel
    by_cases hlt : k < len
    · obtain ⟨b, off, rfl, hbs, hl⟩ := hc (by omega)
      have hkL : k < L.length := by rw [← HN.out]; exact hlt
      obtain ⟨f, hf⟩ : ∃ f, f = L.getD k dopZ := ⟨_, rfl⟩
      have d0 : wr.cell? ⟨b, off + k * 4, none⟩ = some (.int .i64 f.k) := by rw [hf]; exact (hB.cell (p := ⟨b, off + k * 4, none⟩) hbs).trans (hl k hlt 0 (by omega))
      have d1 : wr.cell? ⟨b, off + k * 4 + 1, none⟩ = some (.string f.n) := by rw [hf]; exact (hB.cell (p := ⟨b, off + k * 4 + 1, none⟩) hbs).trans (hl k hlt 1 (by omega))
      have d2 : wr.cell? ⟨b, off + k * 4 + 2, none⟩ = some (.string f.t) := by rw [hf]; exact (hB.cell (p := ⟨b, off + k * 4 + 2, none⟩) hbs).trans (hl k hlt 2 (by omega))
      have d3 : wr.cell? ⟨b, off + k * 4 + 3, none⟩ = some (.string f.d) := by rw [hf]; exact (hB.cell (p := ⟨b, off + k * 4 + 3, none⟩) hbs).trans (hl k hlt 3 (by omega))
      have hFk := HF.out f (by rw [hf]; simp [hkL])
      have HFF := (show Hid _ from hf)
      have hltI : (k : Int) < (len : Int) := by omega
      clear hl hc hf
      go_wp2_with fail
      refine (szDOp_any f hFk _ r hr0 (by omega)).mono ?_
      rintro e w1 ⟨r1, rfl, hq, hB1⟩
      have HB1 : Hid (Below w.heap.size w w1) := hB.trans (hB1.mono hB.size)
      clear hB1
      rcases hq with hq | ⟨hq0, hq1⟩
      · go_wp2
        go_ret
        exact ⟨_, rfl, .inl (by decide), HB1.out⟩
      · have HA' : Hid ((∀ j, j < k + 1 → (L.getD j dopZ).n.size ≤ 1048576 ∧ (L.getD j dopZ).t.size ≤ 1048576 ∧ (L.getD j dopZ).d.size ≤ 1048576)) := by
          have key : ∀ j, j < k + 1 → (L.getD j dopZ).n.size ≤ 1048576 ∧ (L.getD j dopZ).t.size ≤ 1048576 ∧ (L.getD j dopZ).d.size ≤ 1048576 := fun j hj => by
            rcases Nat.lt_succ_iff_lt_or_eq.1 hj with h1 | rfl
            · exact HA.out j h1
            · rw [← HFF.out]; exact ⟨by omega, by omega, by omega⟩
          exact key
        have hr1' : r1 ≤ M := by omega
        clear hq1 hFk
        go_wp2
        go_roundw
        case rel => exact ⟨k + 1, _, by omega, by go_num, rfl, hq0, hr1', HA', HB1.out⟩
        case measure => simp [intOf]; omega
    · have hke : k = len := by omega
      subst hke
      have HA2 : Hid ((∀ j, j < k → (L.getD j dopZ).n.size ≤ 1048576 ∧ (L.getD j dopZ).t.size ≤ 1048576 ∧ (L.getD j dopZ).d.size ≤ 1048576)) := by
        exact HA.out
      clear HA
      go_wp2
      go_ret
      exact ⟨_, rfl, .inr ⟨hr0, hr1, hlen, HA2.out⟩, hB⟩


set_option maxRecDepth 10000 in
set_option maxHeartbeats 2000000 in
theorem toDOpS_any (v : Value) (L : List Dop) (w : World) (h : RdO w v L) (hl0 : L.length ≤ 1048576) :
    Calls Try.prog 48 #[v] w fun e w' => e = .returned (.slice (some ⟨w.heap.size, 0, none⟩) L.length L.length) ∧ RdO w' (.slice (some ⟨w.heap.size, 0, none⟩) L.length L.length) L ∧ Below w.heap.size w w' := by
  obtain ⟨a, cap, rfl, hlc, hcm, hc⟩ := h
  obtain ⟨len, hlen0⟩ : ∃ n, n = L.length := ⟨_, rfl⟩
  have HN : Hid (L.length = len) := hlen0.symm
  rw [← hlen0] at hlc hc hl0 ⊢
  clear hlen0
  obtain ⟨i0, hi, hz0, hz1, hz2⟩ := info_parts infoDOpT
  have hb2 : i0.bytes * len ≤ 281474976710656 := by rw [hz2]; omega
  have hb3 : len ≤ maxLen := by unfold maxLen; omega
  go_enter Try.func48, Try.ntmps48
  go_wp2_with (at_make; refine wpList_make_full _ rfl _ _ 25 rfl w.heap.size 49 i0 (.agg #[.int .i64 0, .string ⟨#[]⟩, .string ⟨#[]⟩, .string ⟨#[]⟩]) 4 Try.underlying25 hi hz0 hz1 .i64 .i64 _ _ len rfl rfl rfl rfl hb2 hb3 (Nat.le_refl _) ?_; intro w1 hown hgrow)
  have hB1 : Below w.heap.size w w1 := (Below.refl _ w).grown hgrow (Nat.le_refl _) (fun k hk => by cases hk)
  clear hgrow
  go_loopw [4] (fun i wr => ∃ (k : Nat) (xs : List Value), k ≤ len ∧ i = .int .i64 k ∧ wr.ownsRow w.heap.size 49 4 (.slice (some ⟨w.heap.size, 0, none⟩) len len) len xs ∧ Hid (∀ j, j < k → (xs)[j * 4]? = some (.int .i64 (L.getD j dopZ).k) ∧ (xs)[j * 4 + 1]? = some (.string (L.getD j dopZ).n) ∧ (xs)[j * 4 + 2]? = some (.string (L.getD j dopZ).t) ∧ (xs)[j * 4 + 3]? = some (.string (L.getD j dopZ).d)) ∧ Below w.heap.size w wr)
    (fun i _ => len - (intOf i).toNat)
  case atStart => exact ⟨0, _, Nat.zero_le _, rfl, hown, fun j hj => absurd hj (Nat.not_lt_zero _), hB1⟩
  case round =>
    obtain ⟨k, xs, hk, rfl, how, HA, hB⟩ := hrel
    by_cases hlt : k < len
    · obtain ⟨b, off, rfl, hbs, hl⟩ := hc (by omega)
      have hkL : k < L.length := by rw [HN.out]; exact hlt
      obtain ⟨f, hf⟩ : ∃ f, f = L.getD k dopZ := ⟨_, rfl⟩
      have d0 : wr.cell? ⟨b, off + k * 4, none⟩ = some (.int .i64 f.k) := by rw [hf]; exact (hB.cell (p := ⟨b, off + k * 4, none⟩) hbs).trans (hl k hlt 0 (by omega))
      have d1 : wr.cell? ⟨b, off + k * 4 + 1, none⟩ = some (.string f.n) := by rw [hf]; exact (hB.cell (p := ⟨b, off + k * 4 + 1, none⟩) hbs).trans (hl k hlt 1 (by omega))
      have d2 : wr.cell? ⟨b, off + k * 4 + 2, none⟩ = some (.string f.t) := by rw [hf]; exact (hB.cell (p := ⟨b, off + k * 4 + 2, none⟩) hbs).trans (hl k hlt 2 (by omega))
      have d3 : wr.cell? ⟨b, off + k * 4 + 3, none⟩ = some (.string f.d) := by rw [hf]; exact (hB.cell (p := ⟨b, off + k * 4 + 3, none⟩) hbs).trans (hl k hlt 3 (by omega))
      have HFF := (show Hid _ from hf)
      have hltI : (k : Int) < (len : Int) := by omega
      have HO : Hid (_) := how
      clear hl hc how hown hB1 hf
      go_wp2_with fail
      refine (toDOp_any f _).mono ?_
      rintro e w2 ⟨rfl, hB2⟩
      have hxl : xs.length = len * 4 := HO.out.1
      have f0 := (ownsRow_below HO.out hB2).frozenAt (k * 4)
      obtain ⟨z0, y0⟩ := own_some (ownsRow_below HO.out hB2) (k * 4) (by omega)
      have f1 := (ownsRow_below HO.out hB2).frozenAt (k * 4 + 1)
      obtain ⟨z1, y1⟩ := own_some (ownsRow_below HO.out hB2) (k * 4 + 1) (by omega)
      have f2 := (ownsRow_below HO.out hB2).frozenAt (k * 4 + 2)
      obtain ⟨z2, y2⟩ := own_some (ownsRow_below HO.out hB2) (k * 4 + 2) (by omega)
      have f3 := (ownsRow_below HO.out hB2).frozenAt (k * 4 + 3)
      obtain ⟨z3, y3⟩ := own_some (ownsRow_below HO.out hB2) (k * 4 + 3) (by omega)
      have HB2 : Hid (Below wr.heap.size wr w2) := hB2
      clear d0 d1 d2 d3
      go_wp2
      go_roundw
      case rel =>
        have hB2 := HB2.out
        refine ⟨k + 1, ((((xs).set (k * 4) (.int .i64 f.k)).set (k * 4 + 1) (.string f.n)).set (k * 4 + 2) (.string f.t)).set (k * 4 + 3) (.string f.d), by omega, by go_num, ?_, ?_, ?_⟩
        · exact (((((((((ownsRow_below HO.out hB2).stored _ _).1).stored _ _).1).stored _ _).1).stored _ _).1)
        · intro j hj
          rcases Nat.lt_succ_iff_lt_or_eq.1 hj with h1 | rfl
          · refine ⟨?_, ?_, ?_, ?_⟩
            · rw [List.getElem?_set_ne (by omega), List.getElem?_set_ne (by omega), List.getElem?_set_ne (by omega), List.getElem?_set_ne (by omega)]; exact (HA.out j h1).1
            · rw [List.getElem?_set_ne (by omega), List.getElem?_set_ne (by omega), List.getElem?_set_ne (by omega), List.getElem?_set_ne (by omega)]; exact (HA.out j h1).2.1
            · rw [List.getElem?_set_ne (by omega), List.getElem?_set_ne (by omega), List.getElem?_set_ne (by omega), List.getElem?_set_ne (by omega)]; exact (HA.out j h1).2.2.1
            · rw [List.getElem?_set_ne (by omega), List.getElem?_set_ne (by omega), List.getElem?_set_ne (by omega), List.getElem?_set_ne (by omega)]; exact (HA.out j h1).2.2.2
          · refine ⟨?_, ?_, ?_, ?_⟩
            · rw [← HFF.out]; rw [List.getElem?_set_ne (by omega), List.getElem?_set_ne (by omega), List.getElem?_set_ne (by omega), List.getElem?_set_self (by first | omega | (simp; omega))]
            · rw [← HFF.out]; rw [List.getElem?_set_ne (by omega), List.getElem?_set_ne (by omega), List.getElem?_set_self (by first | omega | (simp; omega))]
            · rw [← HFF.out]; rw [List.getElem?_set_ne (by omega), List.getElem?_set_self (by first | omega | (simp; omega))]
            · rw [← HFF.out]; rw [List.getElem?_set_self (by first | omega | (simp; omega))]
        · exact (((((hB.trans (hB2.mono hB.size)).setCell (Nat.le_refl _) _).setCell (Nat.le_refl _) _).setCell (Nat.le_refl _) _).setCell (Nat.le_refl _) _)
      case measure => simp [intOf]; omega
    · have hke : k = len := by omega
      subst hke
      have HF : Hid (RdO wr (.slice (some ⟨w.heap.size, 0, none⟩) k k) L) := by
        refine ⟨_, k, by rw [HN.out], Nat.le_of_eq HN.out, by omega, fun hp => ⟨w.heap.size, 0, rfl, own_live how, fun i hi => ?_⟩⟩
        · have hi' : i < k := by rw [← HN.out]; exact hi
          intro t ht
          have q := HA.out i hi'
          rw [Nat.zero_add, how.cellAt _ (by omega)]
          rcases t with _ | _ | _ | _ | t
          · exact q.1
          · exact q.2.1
          · exact q.2.2.1
          · exact q.2.2.2
          · omega
      clear how hown hB1 HA
      go_wp2
      go_ret
      exact ⟨rfl, HF.out, hB⟩


set_option maxHeartbeats 1000000 in
theorem eqDOpS_same (v v' : Value) (L : List Dop) (w : World) (h : RdO w v L) (h' : RdO w v' L) :
    Calls Try.prog 51 #[v, v'] w fun e w' => e = .returned (.bool true) ∧ Below w.heap.size w w' := by
  obtain ⟨a, cap, rfl, hlc, hcm, hc⟩ := h
  obtain ⟨a', cap', rfl, hlc', hcm', hc'⟩ := h'
  obtain ⟨len, hlen0⟩ : ∃ n, n = L.length := ⟨_, rfl⟩
  have HN : Hid (L.length = len) := hlen0.symm
  rw [← hlen0] at hlc hc hlc' hc' ⊢
  clear hlen0
  have hbn : ((len : Int) != (len : Int)) = false := by simp
  go_enter Try.func51, Try.ntmps51
  go_wp2
  go_loopw [5] (fun i wr => ∃ (k : Nat), k ≤ len ∧ i = .int .i64 k ∧ Below w.heap.size w wr) (fun i _ => len - (intOf i).toNat)
  case atStart => exact ⟨0, Nat.zero_le _, rfl, Below.refl _ _⟩
  case round =>
    obtain ⟨k, hk, rfl, hB⟩ := hrel
    by_cases hlt : k < len
    · obtain ⟨b, off, rfl, hbs, hl⟩ := hc (by omega)
      obtain ⟨b', off', rfl, hbs', hl'⟩ := hc' (by omega)
      have hkL : k < L.length := by rw [HN.out]; exact hlt
      obtain ⟨f, hf⟩ : ∃ f, f = L.getD k dopZ := ⟨_, rfl⟩
      have d0 : wr.cell? ⟨b, off + k * 4, none⟩ = some (.int .i64 f.k) := by rw [hf]; exact (hB.cell (p := ⟨b, off + k * 4, none⟩) hbs).trans (hl k hlt 0 (by omega))
      have d1 : wr.cell? ⟨b, off + k * 4 + 1, none⟩ = some (.string f.n) := by rw [hf]; exact (hB.cell (p := ⟨b, off + k * 4 + 1, none⟩) hbs).trans (hl k hlt 1 (by omega))
      have d2 : wr.cell? ⟨b, off + k * 4 + 2, none⟩ = some (.string f.t) := by rw [hf]; exact (hB.cell (p := ⟨b, off + k * 4 + 2, none⟩) hbs).trans (hl k hlt 2 (by omega))
      have d3 : wr.cell? ⟨b, off + k * 4 + 3, none⟩ = some (.string f.d) := by rw [hf]; exact (hB.cell (p := ⟨b, off + k * 4 + 3, none⟩) hbs).trans (hl k hlt 3 (by omega))
      have e0 : wr.cell? ⟨b', off' + k * 4, none⟩ = some (.int .i64 f.k) := by rw [hf]; exact (hB.cell (p := ⟨b', off' + k * 4, none⟩) hbs').trans (hl' k hlt 0 (by omega))
      have e1 : wr.cell? ⟨b', off' + k * 4 + 1, none⟩ = some (.string f.n) := by rw [hf]; exact (hB.cell (p := ⟨b', off' + k * 4 + 1, none⟩) hbs').trans (hl' k hlt 1 (by omega))
      have e2 : wr.cell? ⟨b', off' + k * 4 + 2, none⟩ = some (.string f.t) := by rw [hf]; exact (hB.cell (p := ⟨b', off' + k * 4 + 2, none⟩) hbs').trans (hl' k hlt 2 (by omega))
      have e3 : wr.cell? ⟨b', off' + k * 4 + 3, none⟩ = some (.string f.d) := by rw [hf]; exact (hB.cell (p := ⟨b', off' + k * 4 + 3, none⟩) hbs').trans (hl' k hlt 3 (by omega))
      have hltI : (k : Int) < (len : Int) := by omega
      have HX : Hid (∀ t : Later wr, Calls Try.prog 83 #[.agg #[.int .i64 f.k, .string f.n, .string f.t, .string f.d], .agg #[.int .i64 f.k, .string f.n, .string f.t, .string f.d]] t.val fun e w' => e = .returned (.bool true) ∧ Below t.val.heap.size t.val w') := fun t => eqDOp_same f t.val
      have q0 : ∀ s : Later wr, s.val.cell? ⟨b, off + k * 4, none⟩ = some (.int .i64 f.k) := fun s => s.cell d0
      have r0 : ∀ s : Later wr, s.val.cell? ⟨b', off' + k * 4, none⟩ = some (.int .i64 f.k) := fun s => s.cell e0
      have q1 : ∀ s : Later wr, s.val.cell? ⟨b, off + k * 4 + 1, none⟩ = some (.string f.n) := fun s => s.cell d1
      have r1 : ∀ s : Later wr, s.val.cell? ⟨b', off' + k * 4 + 1, none⟩ = some (.string f.n) := fun s => s.cell e1
      have q2 : ∀ s : Later wr, s.val.cell? ⟨b, off + k * 4 + 2, none⟩ = some (.string f.t) := fun s => s.cell d2
      have r2 : ∀ s : Later wr, s.val.cell? ⟨b', off' + k * 4 + 2, none⟩ = some (.string f.t) := fun s => s.cell e2
      have q3 : ∀ s : Later wr, s.val.cell? ⟨b, off + k * 4 + 3, none⟩ = some (.string f.d) := fun s => s.cell d3
      have r3 : ∀ s : Later wr, s.val.cell? ⟨b', off' + k * 4 + 3, none⟩ = some (.string f.d) := fun s => s.cell e3
      have hne := Later.any wr
      clear hl hl' hc hc' hf d0 e0 d1 e1 d2 e2 d3 e3
      go_wp2
      refine wp_region_later (by kernel_rfl) (by kernel_rfl) ?_
      repeat (go_big_quiet_step ((rename_i t; exact Calls.later (HX.out t))))
      refine wpQuiet_nil ?_
      rintro _ ⟨⟨w', hB2⟩, rfl⟩
      have HB2 := (show Hid _ from hB.trans (hB2.mono hB.size))
      go_wp2
      go_roundw
      case rel => exact ⟨k + 1, by omega, by go_num, HB2.out⟩
      case measure => simp [intOf]; omega
    · have hke : k = len := by omega
      subst hke
      go_wp2
      go_ret
      exact ⟨rfl, hB⟩


end Go.Proofs.Ytbohaefmokbgbaa
