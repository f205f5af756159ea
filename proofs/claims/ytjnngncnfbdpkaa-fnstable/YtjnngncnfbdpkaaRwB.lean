/-
  Copies of rows, and rows held against each other. No condition but that the slices read.
-/
import Derived.Test.YtjnngncnfbdpkaaRwA
import Derived.Deep.Slices
namespace Go.Proofs.Ytjnngncnfbdpkaa
open Go.RowKit
set_option linter.unusedVariables false

theorem ret_val {a b : Value} (h : a = b) : Ending.returned a = .returned b := by rw [h]

set_option maxHeartbeats 400000 in
theorem toRow_any (x : Rw) (u : Value) (w : World) (h : RdI w u x.cs) (hlen : x.cs.length ≤ 1048576) :
    Calls Try.prog 25 #[.agg #[.int .i64 x.who, u]] w fun e w' => ∃ v, e = .returned (.agg #[.int .i64 x.who, v]) ∧ OwnI w' w.heap.size v x.cs ∧ Below w.heap.size w w' := by
  obtain ⟨a, cap, hu, _⟩ := h.shape
  subst hu
  obtain ⟨n, hn⟩ : ∃ n, n = x.cs.length := ⟨_, rfl⟩
  have HN : Hid (n = x.cs.length) := hn
  have hB3 : Below w.heap.size w (((w.alloc (Obj.cells #[Value.int IntKind.i64 x.who, Value.slice a n cap] 43)).alloc (Obj.cells #[Value.int IntKind.i64 0, Value.slice none 0 0] 46)).alloc (Obj.cells #[Value.int IntKind.i64 x.who, Value.slice none 0 0] 46)) :=
    (((Below.refl _ _).alloc (Nat.le_refl _) _).alloc (by simp) _).alloc (by simp; omega) _
  have HC : Hid (Calls Try.prog 41 #[.slice a n cap] (((w.alloc (Obj.cells #[Value.int IntKind.i64 x.who, Value.slice a n cap] 43)).alloc (Obj.cells #[Value.int IntKind.i64 0, Value.slice none 0 0] 46)).alloc (Obj.cells #[Value.int IntKind.i64 x.who, Value.slice none 0 0] 46)) fun e w' => e = .returned (.slice (some ⟨w.heap.size + 1 + 1 + 1, 0, none⟩) n n) ∧ OwnI w' (w.heap.size + 1 + 1 + 1) (.slice (some ⟨w.heap.size + 1 + 1 + 1, 0, none⟩) n n) x.cs ∧ Below (w.heap.size + 1 + 1 + 1) (((w.alloc (Obj.cells #[Value.int IntKind.i64 x.who, Value.slice a n cap] 43)).alloc (Obj.cells #[Value.int IntKind.i64 0, Value.slice none 0 0] 46)).alloc (Obj.cells #[Value.int IntKind.i64 x.who, Value.slice none 0 0] 46)) w') := by
    have h' := h
    rw [← hn] at h' hlen
    have := toI_any (.slice a n cap) x.cs _ (h'.below hB3) (by rw [← hn]; exact hlen)
    have h2 : Calls _ _ _ _ _ := this
    simp only [← hn, World.size_alloc] at h2
    exact h2
  rw [← hn]
  clear h hn hlen
  go_enter Try.func25, Try.ntmps25
  go_wp2_with fail
  refine HC.out.mono ?_
  rintro e w1 ⟨rfl, hI, hB⟩
  have hc : ∀ b o, b < w.heap.size + 1 + 1 + 1 → w1.cell? ⟨b, o, none⟩ = (((w.alloc (Obj.cells #[Value.int IntKind.i64 x.who, Value.slice a n cap] 43)).alloc (Obj.cells #[Value.int IntKind.i64 0, Value.slice none 0 0] 46)).alloc (Obj.cells #[Value.int IntKind.i64 x.who, Value.slice none 0 0] 46)).cell? ⟨b, o, none⟩ := fun b o h => hB.cell (p := ⟨b, o, none⟩) h
  have hf : ∀ b o, b < w.heap.size + 1 + 1 + 1 → w1.frozen? ⟨b, o, none⟩ = (((w.alloc (Obj.cells #[Value.int IntKind.i64 x.who, Value.slice a n cap] 43)).alloc (Obj.cells #[Value.int IntKind.i64 0, Value.slice none 0 0] 46)).alloc (Obj.cells #[Value.int IntKind.i64 x.who, Value.slice none 0 0] 46)).frozen? ⟨b, o, none⟩ := fun b o h => hB.frozen (p := ⟨b, o, none⟩) h
  have hz : w.heap.size + 3 < w1.heap.size := by
    have := (World.ownsRow.lt hI (w.heap.size + 1 + 1 + 1) rfl).2
    omega
  have hBB : Below w.heap.size w w1 := hB3.trans (hB.mono (by omega))
  have HI : Hid (OwnI w1 (w.heap.size + 1 + 1 + 1) (.slice (some ⟨w.heap.size + 1 + 1 + 1, 0, none⟩) n n) x.cs) := hI
  have HBB : Hid (Below w.heap.size w w1) := hBB
  clear hB hI hBB hB3
  go_wp2
  refine bodyPost_ret (v := .agg #[.int .i64 x.who, .slice (some ⟨w.heap.size + 1 + 1 + 1, 0, none⟩) n n]) (by simp [results, Try.results25, go_sem, hc]) rfl ⟨_, rfl, ?_, ?_⟩
  · refine OwnI.base (HI.out.blk fun k hk => ?_) (by omega)
    have e : w.heap.size + 1 + 1 + 1 = k := Option.some.inj hk
    subst e
    rw [Below.heap_setCell _ _ _ _ (by first | (simp; done) | (simp; omega)), Below.heap_setCell _ _ _ _ (by first | (simp; done) | (simp; omega)), Below.heap_setCell _ _ _ _ (by first | (simp; done) | (simp; omega))]
  · exact ((HBB.out.setCell (by simp; omega) _).setCell (by simp) _).setCell (by simp) _

theorem infoR : (Try.prog.info? 46).map (fun i => (i.zero, i.size, i.bytes)) = some (some (.agg #[.int .i64 0, .slice none 0 0]), 2, 32) := by kernel_rfl

set_option maxHeartbeats 1000000 in
theorem toRows_any (v : Value) (L : List Rw) (w : World) (h : RdR w v L) (hl : L.length ≤ 1048576) (hL : ∀ i, i < L.length → (L.getD i rwZ).cs.length ≤ 1048576) :
    Calls Try.prog 8 #[v] w fun e w' => ∃ v', e = .returned v' ∧ OwnR w' w.heap.size w'.heap.size v' L ∧ Below w.heap.size w w' := by
  obtain ⟨a, cap, rfl, hlc, hcm, hc⟩ := h
  obtain ⟨len, hln⟩ : ∃ len, len = L.length := ⟨_, rfl⟩
  have HLN : Hid (len = L.length) := hln
  have HL : Hid (∀ i, i < len → (L.getD i rwZ).cs.length ≤ 1048576) := by rw [hln]; exact hL
  rw [← hln] at hlc hc hl ⊢
  clear hln hL
  obtain ⟨i0, hi, hz0, hz1, hz2⟩ := info_parts infoR
  have hb2 : i0.bytes * len ≤ 281474976710656 := by rw [hz2]; omega
  have hb3 : len ≤ maxLen := by unfold maxLen; omega
  go_enter Try.func8, Try.ntmps8
  go_wp2_with (at_make; refine wpList_make_full _ rfl _ _ 24 rfl w.heap.size 46 i0 (.agg #[.int .i64 0, .slice none 0 0]) 2 Try.underlying24 hi hz0 hz1 .i64 .i64 _ _ len rfl rfl rfl rfl hb2 hb3 (Nat.le_refl _) ?_; intro w1 hown hgrow)
  have hB1 : Below w.heap.size w w1 := (Below.refl _ w).grown hgrow (Nat.le_refl _) (fun k hk => by cases hk)
  clear hgrow
  go_loopw [4] (fun i wr => ∃ (k : Nat) (xs : List Value) (u : Nat → Value), k ≤ len ∧ i = .int .i64 k ∧ wr.ownsRow w.heap.size 46 2 (.slice (some ⟨w.heap.size, 0, none⟩) len len) len xs ∧
      Hid ((∀ j, j < k → xs[j * 2]? = some (.int .i64 (L.getD j rwZ).who) ∧ xs[j * 2 + 1]? = some (u j) ∧ OwnI wr w.heap.size (u j) (L.getD j rwZ).cs) ∧ ∀ i j, i < k → j < i → ∀ q, (u i).ownBlock = some q → (u j).ownBlock ≠ some q) ∧ Below w.heap.size w wr)
    (fun i _ => len - (intOf i).toNat)
  case atStart => exact ⟨0, _, fun _ => .slice none 0 0, Nat.zero_le _, rfl, hown, ⟨fun j hj => absurd hj (Nat.not_lt_zero _), fun i j hi => absurd hi (Nat.not_lt_zero _)⟩, hB1⟩
  case round =>
    obtain ⟨k, xs, u, hk, rfl, how, HA, hB⟩ := hrel
    by_cases hlt : k < len
    · obtain ⟨b, off, rfl, hbs, hcell⟩ := hc (by omega)
      obtain ⟨c0, uk, c1, c2⟩ := hcell k hlt
      have d1 := (hB.cell (p := ⟨b, off + k * 2, none⟩) hbs).trans c0
      have d2 := (hB.cell (p := ⟨b, off + k * 2 + 1, none⟩) hbs).trans c1
      have d3 := c2.below (hB.mono (Nat.le_refl _))
      have hlk := HL.out k hlt
      obtain ⟨y, hy⟩ : ∃ y, y = L.getD k rwZ := ⟨_, rfl⟩
      rw [← hy] at d1 d3 hlk
      have HY : Hid (y = L.getD k rwZ) := hy
      have HI : Hid (RdI wr uk y.cs) := d3
      have hxl : xs.length = len * 2 := how.1
      have HO : Hid (wr.ownsRow w.heap.size 46 2 (.slice (some ⟨w.heap.size, 0, none⟩) len len) len xs) := how
      have hws : w.heap.size < wr.heap.size := own_live how
      clear hcell hc c0 c1 c2 hy d3 how hown hB1
      go_wp2_with fail
      refine (toRow_any y uk wr HI.out hlk).mono ?_
      rintro e w2 ⟨v2, rfl, hI2, hB2⟩
      obtain ⟨a2, c2, hv2⟩ := hI2.slice
      rw [hv2] at hI2 ⊢
      have HV2 : Hid (v2 = .slice a2 y.cs.length c2) := hv2
      clear hv2
      have f1 := (ownsRow_below HO.out hB2).frozenAt (k * 2)
      have f2 := (ownsRow_below HO.out hB2).frozenAt (k * 2 + 1)
      obtain ⟨v1, e1⟩ := own_some (ownsRow_below HO.out hB2) (k * 2) (by omega)
      obtain ⟨v1', e2⟩ := own_some (ownsRow_below HO.out hB2) (k * 2 + 1) (by omega)
      have HI2 : Hid (OwnI w2 wr.heap.size (.slice a2 y.cs.length c2) y.cs) := hI2
      have HB2 : Hid (Below wr.heap.size wr w2) := hB2
      clear hI2 hB2
      go_wp2
      go_roundw
      case rel =>
        have o2 := ownsRow_below HO.out HB2.out
        refine ⟨k + 1, (xs.set (k * 2) (.int .i64 y.who)).set (k * 2 + 1) (.slice a2 y.cs.length c2), fun j => if j = k then (.slice a2 y.cs.length c2) else u j, by omega, by go_num, ?_, ⟨fun j hj => ?_, fun i j hi hj q hq => ?_⟩, ?_⟩
        · exact (o2.stored _ _).1.stored _ _ |>.1
        · have keep : ∀ (x : Value) (M : List Int), OwnI w2 w.heap.size x M → OwnI ((w2.setCell ⟨w.heap.size, k * 2, none⟩ (.int .i64 y.who)).setCell ⟨w.heap.size, k * 2 + 1, none⟩ (.slice a2 y.cs.length c2)) w.heap.size x M := fun x M hx => hx.blk fun q hq => by
            have hne : q ≠ w.heap.size := fun e => row_ne_int o2 hx hq (by rw [e]; rfl)
            rw [Below.heap_setCell _ _ _ _ hne, Below.heap_setCell _ _ _ _ hne]
          rcases Nat.lt_succ_iff_lt_or_eq.1 hj with h1 | rfl
          · obtain ⟨q1, q2, q3⟩ := HA.out.1 j h1
            dsimp only
            rw [if_neg (by omega)]
            refine ⟨?_, ?_, keep _ _ (q3.below HB2.out)⟩
            · rw [List.getElem?_set_ne (by omega), List.getElem?_set_ne (by omega)]; exact q1
            · rw [List.getElem?_set_ne (by omega), List.getElem?_set_ne (by omega)]; exact q2
          · dsimp only
            rw [if_pos rfl, ← HY.out]
            refine ⟨?_, ?_, keep _ _ (HI2.out.base (by omega))⟩
            · rw [List.getElem?_set_ne (by omega), List.getElem?_set_self (by omega)]
            · rw [List.getElem?_set_self (by simp; omega)]
        · dsimp only at hq ⊢
          have hjk : ¬ j = k := by omega
          rw [if_neg hjk]
          by_cases hik : i = k
          · subst hik
            rw [if_pos rfl] at hq
            intro e
            have h1 := (World.ownsRow.lt HI2.out q hq).1
            have h2 := (World.ownsRow.lt (HA.out.1 j hj).2.2 q e).2
            omega
          · rw [if_neg hik] at hq
            exact HA.out.2 i j (by omega) hj q hq
        · exact ((hB.trans (HB2.out.mono hB.size)).setCell (Nat.le_refl _) _).setCell (Nat.le_refl _) _
      case measure => simp [intOf]; omega
    · have hke : k = len := by omega
      subst hke
      have HF : Hid (OwnR wr w.heap.size wr.heap.size (.slice (some ⟨w.heap.size, 0, none⟩) k k) L) := by
        refine ⟨xs, u, ?_, fun q hq => (how.lt q hq).2, fun i hi => ?_, fun i j hi hj => ?_⟩
        · rw [← HLN.out]; exact how
        · rw [← HLN.out] at hi
          obtain ⟨q1, q2, q3⟩ := HA.out.1 i hi
          exact ⟨q1, q2, q3, fun q hq => (World.ownsRow.lt q3 q hq).2⟩
        · rw [← HLN.out] at hi
          exact HA.out.2 i j hi hj
      clear how hown hB1 HA
      go_wp2
      go_ret
      exact ⟨_, rfl, HF.out, hB⟩

theorem eqRow_same (x : Rw) (u u' : Value) (w : World) (h : RdI w u x.cs) (h' : RdI w u' x.cs) :
    Calls Try.prog 31 #[.agg #[.int .i64 x.who, u], .agg #[.int .i64 x.who, u']] w fun e w' => e = .returned (.bool true) ∧ Below w.heap.size w w' := by
  obtain ⟨a, cap, hu, _⟩ := h.shape
  subst hu
  obtain ⟨a', cap', hu', _⟩ := h'.shape
  subst hu'
  have HB : Hid (∀ o o', Below w.heap.size w ((w.alloc o).alloc o')) := fun o o' => ((Below.refl _ _).alloc (Nat.le_refl _) _).alloc (by simp) _
  have e1 : (x.who != x.who) = false := by simp
  have HE : Hid (∀ o o', Calls Try.prog 47 #[.slice a x.cs.length cap, .slice a' x.cs.length cap'] ((w.alloc o).alloc o') fun e w' => e = .returned (.bool true) ∧ Below ((w.alloc o).alloc o').heap.size ((w.alloc o).alloc o') w') := fun o o' => eqI_same _ _ _ _ (h.below (HB.out o o')) (h'.below (HB.out o o'))
  clear h h'
  go_enter Try.func31, Try.ntmps31
  go_wp2_with fail
  refine (HE.out _ _).mono ?_
  rintro e w1 ⟨rfl, hB1⟩
  have HF : Hid (Below w.heap.size w w1) := (HB.out _ _).trans (hB1.mono (by simp; omega))
  clear hB1
  go_wp2
  go_ret
  exact ⟨rfl, HF.out⟩

set_option maxHeartbeats 1000000 in
theorem eqRows_same (v v' : Value) (L : List Rw) (w : World) (h : RdR w v L) (h' : RdR w v' L) :
    Calls Try.prog 10 #[v, v'] w fun e w' => e = .returned (.bool true) ∧ Below w.heap.size w w' := by
  obtain ⟨a, cap, rfl, hlc, hcm, hc⟩ := h
  obtain ⟨a', cap', rfl, hlc', hcm', hc'⟩ := h'
  obtain ⟨len, hl⟩ : ∃ len, len = L.length := ⟨_, rfl⟩
  rw [← hl] at hlc hlc' hc hc' ⊢
  clear hl
  have hbn : ((len : Int) != (len : Int)) = false := by simp
  go_enter Try.func10, Try.ntmps10
  go_wp2
  go_loopw [5] (fun i wr => ∃ (k : Nat), k ≤ len ∧ i = .int .i64 k ∧ Below w.heap.size w wr) (fun i _ => len - (intOf i).toNat)
  case atStart => exact ⟨0, Nat.zero_le _, rfl, Below.refl _ _⟩
  case round =>
    obtain ⟨k, hk, rfl, hB⟩ := hrel
    by_cases hlt : k < len
    · obtain ⟨b, off, rfl, hbs, hcell⟩ := hc (by omega)
      obtain ⟨b', off', rfl, hbs', hcell'⟩ := hc' (by omega)
      obtain ⟨c0, u, c1, c2⟩ := hcell k hlt
      obtain ⟨c0', u', c1', c2'⟩ := hcell' k hlt
      have d0 := (hB.cell (p := ⟨b, off + k * 2, none⟩) hbs).trans c0
      have d1 := (hB.cell (p := ⟨b, off + k * 2 + 1, none⟩) hbs).trans c1
      have d2 := c2.below hB
      have d0' := (hB.cell (p := ⟨b', off' + k * 2, none⟩) hbs').trans c0'
      have d1' := (hB.cell (p := ⟨b', off' + k * 2 + 1, none⟩) hbs').trans c1'
      have d2' := c2'.below hB
      obtain ⟨y, hy⟩ : ∃ y, y = L.getD k rwZ := ⟨_, rfl⟩
      rw [← hy] at d0 d2 d0' d2'
      have hltI : (k : Int) < (len : Int) := by omega
      have q0 : ∀ s : Later wr, s.val.cell? ⟨b, off + k * 2, none⟩ = some (.int .i64 y.who) := fun s => s.cell d0
      have q1 : ∀ s : Later wr, s.val.cell? ⟨b, off + k * 2 + 1, none⟩ = some u := fun s => s.cell d1
      have r0 : ∀ s : Later wr, s.val.cell? ⟨b', off' + k * 2, none⟩ = some (.int .i64 y.who) := fun s => s.cell d0'
      have r1 : ∀ s : Later wr, s.val.cell? ⟨b', off' + k * 2 + 1, none⟩ = some u' := fun s => s.cell d1'
      have HX : Hid (∀ t : Later wr, Calls Try.prog 31 #[.agg #[.int .i64 y.who, u], .agg #[.int .i64 y.who, u']] t.val fun e w' => e = .returned (.bool true) ∧ Below t.val.heap.size t.val w') := fun t => eqRow_same y u u' t.val (d2.below t.ok) (d2'.below t.ok)
      have hne := Later.any wr
      clear hcell hcell' hc hc' c0 c1 c2 c0' c1' c2' d0 d1 d2 d0' d1' d2' hy
      go_wp2
      refine wp_region_later (by kernel_rfl) (by kernel_rfl) ?_
      repeat (go_big_quiet_step ((rename_i t; exact Calls.later (HX.out t))))
      refine wpQuiet_nil ?_
      rintro _ ⟨⟨w', hB2⟩, rfl⟩
      go_wp2
      go_roundw
      case rel => exact ⟨k + 1, by omega, by go_num, hB.trans (hB2.mono hB.size)⟩
      case measure => simp [intOf]; omega
    · have hke : k = len := by omega
      subst hke
      go_wp2
      go_ret
      exact ⟨rfl, hB⟩
end Go.Proofs.Ytjnngncnfbdpkaa
