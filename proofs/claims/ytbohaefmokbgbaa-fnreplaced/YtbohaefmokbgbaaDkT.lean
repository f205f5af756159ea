/-
  The laws' own functions over files and ops: their sizes, copies of them, holding two of them against each other. No condition but that the slices read.
-/
import Derived.Test.YtbohaefmokbgbaaDkL
namespace Go.Proofs.Ytbohaefmokbgbaa
open Go.RowKit
set_option linter.unusedVariables false

set_option maxHeartbeats 1000000 in
theorem szFile_any (x : Fl) (hx : x.n.size ≤ 9223372036854775807 ∧ x.d.size ≤ 9223372036854775807) (w : World) (L : Int) (h0 : 0 ≤ L) (h1 : L ≤ 1048576) :
    Calls Try.prog 79 #[.agg #[.string x.n, .string x.d], .int .i64 L] w fun e w' => ∃ r : Int, e = .returned (.int .i64 r) ∧ (r < 0 ∨ (0 ≤ r ∧ r + ((x.n.size : Int) + (x.d.size : Int)) = L)) ∧ Below w.heap.size w w' := by
  have HB : Hid (∀ o, Below w.heap.size w (w.alloc o)) := fun o => (Below.refl _ _).alloc (Nat.le_refl _) _
  obtain ⟨k0, k1⟩ := hx
  obtain ⟨n0, e0⟩ : ∃ n, n = x.n.size := ⟨_, rfl⟩
  obtain ⟨n1, e1⟩ : ∃ n, n = x.d.size := ⟨_, rfl⟩
  have HN : Hid (n0 = x.n.size ∧ n1 = x.d.size) := ⟨e0, e1⟩
  have i0 : (x.n.size : Int) = (n0 : Int) := by rw [e0]
  rw [← e0] at k0
  have i1 : (x.d.size : Int) = (n1 : Int) := by rw [e1]
  rw [← e1] at k1
  clear e0 e1
  by_cases g0 : L - (n0 : Int) < 0
  · go_enter Try.func79, Try.ntmps79
    go_wp2
    go_ret
    exact ⟨_, rfl, .inl (by decide), HB.out _⟩
  by_cases g1 : L - (n0 : Int) - (n1 : Int) < 0
  · go_enter Try.func79, Try.ntmps79
    go_wp2
    go_ret
    exact ⟨_, rfl, .inl (by decide), HB.out _⟩
  go_enter Try.func79, Try.ntmps79
  go_wp2
  go_ret
  exact ⟨_, rfl, .inr ⟨by omega, by omega⟩, HB.out _⟩


theorem infoFileT : (Try.prog.info? 68).map (fun i => (i.zero, i.size, i.bytes)) = some (some (.agg #[.string ⟨#[]⟩, .string ⟨#[]⟩]), 2, 32) := by kernel_rfl
theorem infoFileK : (Try.prog.info? 68).map (·.size) = some 2 := by kernel_rfl
set_option maxHeartbeats 1000000 in
theorem toFile_any (x : Fl) (w : World) :
    Calls Try.prog 80 #[.agg #[.string x.n, .string x.d]] w fun e w' => e = .returned (.agg #[.string x.n, .string x.d]) ∧ Below w.heap.size w w' := by
  have HB : Hid (∀ o o' o'', Below w.heap.size w (((w.alloc o).alloc o').alloc o'')) := fun o o' o'' => (((Below.refl _ _).alloc (Nat.le_refl _) _).alloc (by simp) _).alloc (by simp; omega) _
  go_enter Try.func80, Try.ntmps80
  have hh : ((((w.alloc (.cells #[.string x.n, .string x.d] 126)).alloc (.cells #[.string x.n, .string x.d] 68)).alloc (.cells #[.string x.n, .string x.d] 68)).heap[w.heap.size + 1]?) = some (.cells #[.string x.n, .string x.d] 68) := by
    rw [Below.heap_alloc _ _ _ (by simp)]
    have := heap_alloc_new (w.alloc (.cells #[.string x.n, .string x.d] 126)) (.cells #[.string x.n, .string x.d] 68)
    simpa using this
  have HH := (show Hid _ from hh)
  clear hh
  go_wp2
  exact bodyPost_ret (v := .agg #[.string x.n, .string x.d]) (results_cell_row rfl _ _ (w.heap.size + 1) 68 _ _ _ rfl HH.out Try.underlying68 rfl infoFileK) rfl ⟨rfl, HB.out _ _ _⟩


set_option maxHeartbeats 1000000 in
theorem eqFile_same (x : Fl) (w : World) :
    Calls Try.prog 82 #[.agg #[.string x.n, .string x.d], .agg #[.string x.n, .string x.d]] w fun e w' => e = .returned (.bool true) ∧ Below w.heap.size w w' := by
  have HB : Hid (∀ o o', Below w.heap.size w ((w.alloc o).alloc o')) := fun o o' => ((Below.refl _ _).alloc (Nat.le_refl _) _).alloc (by simp) _
  have e0 : (x.n.toList == x.n.toList) = true := by simp
  have e1 : (x.d.toList == x.d.toList) = true := by simp
  go_enter Try.func82, Try.ntmps82
  go_wp2
  go_ret
  exact ⟨rfl, HB.out _ _⟩


set_option maxHeartbeats 1000000 in
theorem szFileS_any (v : Value) (L : List Fl) (w : World) (h : RdF w v L) (hF : ∀ f ∈ L, f.n.size ≤ 9223372036854775807 ∧ f.d.size ≤ 9223372036854775807) (M : Int) (hL0 : 0 ≤ M) (hL1 : M ≤ 1048576) :
    Calls Try.prog 45 #[v, .int .i64 M] w fun e w' => ∃ r : Int, e = .returned (.int .i64 r) ∧ (r < 0 ∨ (0 ≤ r ∧ r ≤ M ∧ L.length ≤ 1048576 ∧ (∀ j, j < L.length → (L.getD j flZ).n.size ≤ 1048576 ∧ (L.getD j flZ).d.size ≤ 1048576) ∧ r + (tot L : Int) ≤ M)) ∧ Below w.heap.size w w' := by
  obtain ⟨a, cap, rfl, hlc, hcm, hc⟩ := h
  obtain ⟨len, hlen0⟩ : ∃ n, n = L.length := ⟨_, rfl⟩
  have HN : Hid (len = L.length) := hlen0
  rw [← hlen0] at hlc hc ⊢
  clear hlen0
  by_cases hneg : M - (len : Int) < 0
  · go_enter Try.func45, Try.ntmps45
    go_wp2
    go_ret
    exact ⟨_, rfl, .inl (by decide), Below.refl _ _⟩
  have hlen : len ≤ 1048576 := by omega
  have HF : Hid (∀ f ∈ L, f.n.size ≤ 9223372036854775807 ∧ f.d.size ≤ 9223372036854775807) := hF
  clear hF
  go_enter Try.func45, Try.ntmps45
  go_wp2
  go_loopw [1, 5] (fun x i wr => ∃ (k : Nat) (r : Int), k ≤ len ∧ i = .int .i64 k ∧ x = .int .i64 r ∧ 0 ≤ r ∧ r ≤ M ∧ Hid ((r + (tot (L.take k) : Int) ≤ M) ∧ (∀ j, j < k → (L.getD j flZ).n.size ≤ 1048576 ∧ (L.getD j flZ).d.size ≤ 1048576)) ∧ Below w.heap.size w wr) (fun _ i _ => len - (intOf i).toNat)
  case atStart => exact ⟨0, _, Nat.zero_le _, rfl, rfl, by omega, by omega, ⟨by simp [tot]; omega, fun j hj => absurd hj (Nat.not_lt_zero _)⟩, Below.refl _ _⟩
  case round =>
    obtain ⟨k, r, hk, rfl, rfl, hr0, hr1, HA, hB⟩ := hrel
    by_cases hlt : k < len
    · obtain ⟨b, off, rfl, hbs, hl⟩ := hc (by omega)
      have hkL : k < L.length := by rw [← HN.out]; exact hlt
      obtain ⟨f, hf⟩ : ∃ f, f = L.getD k flZ := ⟨_, rfl⟩
      have d0 : wr.cell? ⟨b, off + k * 2, none⟩ = some (.string f.n) := by rw [hf]; exact (hB.cell (p := ⟨b, off + k * 2, none⟩) hbs).trans ((hl k hkL).c0)
      have d1 : wr.cell? ⟨b, off + k * 2 + 1, none⟩ = some (.string f.d) := by rw [hf]; exact (hB.cell (p := ⟨b, off + k * 2 + 1, none⟩) hbs).trans ((hl k hkL).c1)
      have hFk := HF.out f (by rw [hf]; simp [hkL])
      have HFF := (show Hid _ from hf)
      have hltI : (k : Int) < (len : Int) := by omega
      clear hl hc hf
      go_wp2_with fail
      refine (szFile_any f hFk _ r hr0 (by omega)).mono ?_
      rintro e w1 ⟨r1, rfl, hq, hB1⟩
      have HB1 : Hid (Below w.heap.size w w1) := hB.trans (hB1.mono hB.size)
      clear hB1
      rcases hq with hq | ⟨hq0, hq1⟩
      · go_wp2
        go_ret
        exact ⟨_, rfl, .inl (by decide), HB1.out⟩
      · have HA' : Hid ((r1 + (tot (L.take (k + 1)) : Int) ≤ M) ∧ (∀ j, j < k + 1 → (L.getD j flZ).n.size ≤ 1048576 ∧ (L.getD j flZ).d.size ≤ 1048576)) := by
          have key : ∀ j, j < k + 1 → (L.getD j flZ).n.size ≤ 1048576 ∧ (L.getD j flZ).d.size ≤ 1048576 := fun j hj => by
            rcases Nat.lt_succ_iff_lt_or_eq.1 hj with h1 | rfl
            · exact HA.out.2 j h1
            · rw [← HFF.out]; exact ⟨by omega, by omega⟩
          refine ⟨?_, key⟩
          have := tot_take L k hkL
          rw [← HFF.out] at this
          have := HA.out.1
          omega
        have hr1' : r1 ≤ M := by omega
        clear hq1 hFk
        go_wp2
        go_roundw
        case rel => exact ⟨k + 1, _, by omega, by go_num, rfl, hq0, hr1', HA', HB1.out⟩
        case measure => simp [intOf]; omega
    · have hke : k = len := by omega
      subst hke
      have HA2 : Hid ((∀ j, j < k → (L.getD j flZ).n.size ≤ 1048576 ∧ (L.getD j flZ).d.size ≤ 1048576) ∧ r + (tot L : Int) ≤ M) := by
        have e : L.take k = L := by rw [HN.out]; exact List.take_length
        have h1 := HA.out.1
        rw [e] at h1
        exact ⟨HA.out.2, h1⟩
      clear HA
      go_wp2
      go_ret
      exact ⟨_, rfl, .inr ⟨hr0, hr1, hlen, HA2.out.1, HA2.out.2⟩, hB⟩


set_option maxRecDepth 10000 in
set_option maxHeartbeats 2000000 in
theorem toFileS_any (v : Value) (L : List Fl) (w : World) (h : RdF w v L) (hl0 : L.length ≤ 1048576) :
    Calls Try.prog 47 #[v] w fun e w' => e = .returned (.slice (some ⟨w.heap.size, 0, none⟩) L.length L.length) ∧ RdF w' (.slice (some ⟨w.heap.size, 0, none⟩) L.length L.length) L ∧ Below w.heap.size w w' := by
  obtain ⟨a, cap, rfl, hlc, hcm, hc⟩ := h
  obtain ⟨len, hlen0⟩ : ∃ n, n = L.length := ⟨_, rfl⟩
  have HN : Hid (L.length = len) := hlen0.symm
  rw [← hlen0] at hlc hc hl0 ⊢
  clear hlen0
  obtain ⟨i0, hi, hz0, hz1, hz2⟩ := info_parts infoFileT
  have hb2 : i0.bytes * len ≤ 281474976710656 := by rw [hz2]; omega
  have hb3 : len ≤ maxLen := by unfold maxLen; omega
  go_enter Try.func47, Try.ntmps47
  go_wp2_with (at_make; refine wpList_make_full _ rfl _ _ 24 rfl w.heap.size 68 i0 (.agg #[.string ⟨#[]⟩, .string ⟨#[]⟩]) 2 Try.underlying24 hi hz0 hz1 .i64 .i64 _ _ len rfl rfl rfl rfl hb2 hb3 (Nat.le_refl _) ?_; intro w1 hown hgrow)
  have hB1 : Below w.heap.size w w1 := (Below.refl _ w).grown hgrow (Nat.le_refl _) (fun k hk => by cases hk)
  clear hgrow
  go_loopw [4] (fun i wr => ∃ (k : Nat) (xs : List Value), k ≤ len ∧ i = .int .i64 k ∧ wr.ownsRow w.heap.size 68 2 (.slice (some ⟨w.heap.size, 0, none⟩) len len) len xs ∧ Hid (∀ j, j < k → (xs)[j * 2]? = some (.string (L.getD j flZ).n) ∧ (xs)[j * 2 + 1]? = some (.string (L.getD j flZ).d)) ∧ Below w.heap.size w wr)
    (fun i _ => len - (intOf i).toNat)
  case atStart => exact ⟨0, _, Nat.zero_le _, rfl, hown, fun j hj => absurd hj (Nat.not_lt_zero _), hB1⟩
  case round =>
    obtain ⟨k, xs, hk, rfl, how, HA, hB⟩ := hrel
    by_cases hlt : k < len
    · obtain ⟨b, off, rfl, hbs, hl⟩ := hc (by omega)
      have hkL : k < L.length := by rw [HN.out]; exact hlt
      obtain ⟨f, hf⟩ : ∃ f, f = L.getD k flZ := ⟨_, rfl⟩
      have d0 : wr.cell? ⟨b, off + k * 2, none⟩ = some (.string f.n) := by rw [hf]; exact (hB.cell (p := ⟨b, off + k * 2, none⟩) hbs).trans ((hl k hkL).c0)
      have d1 : wr.cell? ⟨b, off + k * 2 + 1, none⟩ = some (.string f.d) := by rw [hf]; exact (hB.cell (p := ⟨b, off + k * 2 + 1, none⟩) hbs).trans ((hl k hkL).c1)
      have HFF := (show Hid _ from hf)
      have hltI : (k : Int) < (len : Int) := by omega
      have HO : Hid (_) := how
      clear hl hc how hown hB1 hf
      go_wp2_with fail
      refine (toFile_any f _).mono ?_
      rintro e w2 ⟨rfl, hB2⟩
      have hxl : xs.length = len * 2 := HO.out.1
      have f0 := (ownsRow_below HO.out hB2).frozenAt (k * 2)
      obtain ⟨z0, y0⟩ := own_some (ownsRow_below HO.out hB2) (k * 2) (by omega)
      have f1 := (ownsRow_below HO.out hB2).frozenAt (k * 2 + 1)
      obtain ⟨z1, y1⟩ := own_some (ownsRow_below HO.out hB2) (k * 2 + 1) (by omega)
      have HB2 : Hid (Below wr.heap.size wr w2) := hB2
      clear d0 d1
      go_wp2
      go_roundw
      case rel =>
        have hB2 := HB2.out
        refine ⟨k + 1, ((xs).set (k * 2) (.string f.n)).set (k * 2 + 1) (.string f.d), by omega, by go_num, ?_, ?_, ?_⟩
        · exact (((((ownsRow_below HO.out hB2).stored _ _).1).stored _ _).1)
        · intro j hj
          rcases Nat.lt_succ_iff_lt_or_eq.1 hj with h1 | rfl
          · refine ⟨?_, ?_⟩
            · rw [List.getElem?_set_ne (by omega), List.getElem?_set_ne (by omega)]; exact (HA.out j h1).1
            · rw [List.getElem?_set_ne (by omega), List.getElem?_set_ne (by omega)]; exact (HA.out j h1).2
          · refine ⟨?_, ?_⟩
            · rw [← HFF.out]; rw [List.getElem?_set_ne (by omega), List.getElem?_set_self (by first | omega | (simp; omega))]
            · rw [← HFF.out]; rw [List.getElem?_set_self (by first | omega | (simp; omega))]
        · exact (((hB.trans (hB2.mono hB.size)).setCell (Nat.le_refl _) _).setCell (Nat.le_refl _) _)
      case measure => simp [intOf]; omega
    · have hke : k = len := by omega
      subst hke
      have HF : Hid (RdF wr (.slice (some ⟨w.heap.size, 0, none⟩) k k) L) := by
        refine ⟨_, k, by rw [HN.out], Nat.le_of_eq HN.out, by omega, fun hp => ⟨w.heap.size, 0, rfl, own_live how, fun i hi => ?_⟩⟩
        · have hi' : i < k := by rw [← HN.out]; exact hi
          refine ⟨?_, ?_⟩
          · rw [Nat.zero_add, how.cellAt _ (by omega)]; exact (HA.out i hi').1
          · rw [Nat.zero_add, how.cellAt _ (by omega)]; exact (HA.out i hi').2
      clear how hown hB1 HA
      go_wp2
      go_ret
      exact ⟨rfl, HF.out, hB⟩


set_option maxHeartbeats 1000000 in
theorem eqFileS_same (v v' : Value) (L : List Fl) (w : World) (h : RdF w v L) (h' : RdF w v' L) :
    Calls Try.prog 50 #[v, v'] w fun e w' => e = .returned (.bool true) ∧ Below w.heap.size w w' := by
  obtain ⟨a, cap, rfl, hlc, hcm, hc⟩ := h
  obtain ⟨a', cap', rfl, hlc', hcm', hc'⟩ := h'
  obtain ⟨len, hlen0⟩ : ∃ n, n = L.length := ⟨_, rfl⟩
  have HN : Hid (L.length = len) := hlen0.symm
  rw [← hlen0] at hlc hc hlc' hc' ⊢
  clear hlen0
  have hbn : ((len : Int) != (len : Int)) = false := by simp
  go_enter Try.func50, Try.ntmps50
  go_wp2
  go_loopw [5] (fun i wr => ∃ (k : Nat), k ≤ len ∧ i = .int .i64 k ∧ Below w.heap.size w wr) (fun i _ => len - (intOf i).toNat)
  case atStart => exact ⟨0, Nat.zero_le _, rfl, Below.refl _ _⟩
  case round =>
    obtain ⟨k, hk, rfl, hB⟩ := hrel
    by_cases hlt : k < len
    · obtain ⟨b, off, rfl, hbs, hl⟩ := hc (by omega)
      obtain ⟨b', off', rfl, hbs', hl'⟩ := hc' (by omega)
      have hkL : k < L.length := by rw [HN.out]; exact hlt
      obtain ⟨f, hf⟩ : ∃ f, f = L.getD k flZ := ⟨_, rfl⟩
      have d0 : wr.cell? ⟨b, off + k * 2, none⟩ = some (.string f.n) := by rw [hf]; exact (hB.cell (p := ⟨b, off + k * 2, none⟩) hbs).trans ((hl k hkL).c0)
      have d1 : wr.cell? ⟨b, off + k * 2 + 1, none⟩ = some (.string f.d) := by rw [hf]; exact (hB.cell (p := ⟨b, off + k * 2 + 1, none⟩) hbs).trans ((hl k hkL).c1)
      have e0 : wr.cell? ⟨b', off' + k * 2, none⟩ = some (.string f.n) := by rw [hf]; exact (hB.cell (p := ⟨b', off' + k * 2, none⟩) hbs').trans ((hl' k hkL).c0)
      have e1 : wr.cell? ⟨b', off' + k * 2 + 1, none⟩ = some (.string f.d) := by rw [hf]; exact (hB.cell (p := ⟨b', off' + k * 2 + 1, none⟩) hbs').trans ((hl' k hkL).c1)
      have hltI : (k : Int) < (len : Int) := by omega
      have HX : Hid (∀ t : Later wr, Calls Try.prog 82 #[.agg #[.string f.n, .string f.d], .agg #[.string f.n, .string f.d]] t.val fun e w' => e = .returned (.bool true) ∧ Below t.val.heap.size t.val w') := fun t => eqFile_same f t.val
      have q0 : ∀ s : Later wr, s.val.cell? ⟨b, off + k * 2, none⟩ = some (.string f.n) := fun s => s.cell d0
      have r0 : ∀ s : Later wr, s.val.cell? ⟨b', off' + k * 2, none⟩ = some (.string f.n) := fun s => s.cell e0
      have q1 : ∀ s : Later wr, s.val.cell? ⟨b, off + k * 2 + 1, none⟩ = some (.string f.d) := fun s => s.cell d1
      have r1 : ∀ s : Later wr, s.val.cell? ⟨b', off' + k * 2 + 1, none⟩ = some (.string f.d) := fun s => s.cell e1
      have hne := Later.any wr
      clear hl hl' hc hc' hf d0 e0 d1 e1
      go_wp2
      refine wp_region_later (by kernel_rfl) (by kernel_rfl) ?_
      repeat (go_big_quiet_step ((rename_i t; exact Calls.later (HX.out t))))
      refine wpQuiet_nil ?_
      rintro _ ⟨⟨w', hB2⟩, rfl⟩
      have HB2 := (show Hid _ from hB.trans (hB2.mono hB.size))
      go_wp2
      go_roundw
      case rel => exact ⟨k + 1, by omega, by go_num, HB2.out⟩
      case measure => simp [intOf]; omega
    · have hke : k = len := by omega
      subst hke
      go_wp2
      go_ret
      exact ⟨rfl, hB⟩


end Go.Proofs.Ytbohaefmokbgbaa
