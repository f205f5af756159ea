/-
  The functions over one Epoch and over []Epoch that the law calls return what plain data says. No condition but that the slices read.
-/
import Derived.Test.YtcolcnkjcagbaaaDoorEpInts
import Derived.Deep.Slices
namespace Go.Proofs.YtcolcnkjcagbaaaDoor.Ep
open Go.RowKit
set_option linter.unusedVariables false

theorem bcell {W w1 : World} (hb : Below W.heap.size W w1) : (∀ b o, b < W.heap.size → w1.cell? ⟨b, o, none⟩ = W.cell? ⟨b, o, none⟩) ∧ (∀ b o, b < W.heap.size → w1.frozen? ⟨b, o, none⟩ = W.frozen? ⟨b, o, none⟩) :=
  ⟨fun b o h => hb.cell (p := ⟨b, o, none⟩) h, fun b o h => hb.frozen (p := ⟨b, o, none⟩) h⟩

theorem ret_int {k : IntKind} {a b : Int} (h : a = b) : Ending.returned (.int k a) = .returned (.int k b) := by rw [h]

theorem szEpoch_any (K : Int) (a : Option Addr) (len cap : Nat) (left : Int) (w : World) (hl : len ≤ 9223372036854775807) (h0 : 0 ≤ left) (h1 : left ≤ 1048576) :
    Calls Tryd.prog 26 #[.agg #[.int .i64 K, .slice a len cap], .int .i64 left] w fun e w' => e = .returned (.int .i64 (if left - (len : Int) < 0 then -1 else left - (len : Int))) ∧ Below w.heap.size w w' := by
  by_cases h : left - (len : Int) < 0
  · go_enter Tryd.func26, Tryd.ntmps26
    go_wp2_with (go_at_call 39; refine (szInt64S_any _ _ _ _ _ hl h0 h1).mono ?_; rintro e w' ⟨rfl, rfl⟩; rw [if_pos h])
    go_ret
    exact ⟨rfl, (Below.refl _ _).alloc (Nat.le_refl _) _⟩
  · go_enter Tryd.func26, Tryd.ntmps26
    go_wp2_with (go_at_call 39; refine (szInt64S_any _ _ _ _ _ hl h0 h1).mono ?_; rintro e w' ⟨rfl, rfl⟩; rw [if_neg h])
    go_ret
    exact ⟨rfl, (Below.refl _ _).alloc (Nat.le_refl _) _⟩

theorem IsI64.of_eq {w : World} {a : Option Addr} {len cap : Nat} {Z : Nat → Int} (h : IsI64 w a len cap Z) (w' : World) (hB : Below w.heap.size w w') : IsI64 w' a len cap Z := h.below hB

theorem IsI64.other {w : World} {g off len cap : Nat} {Z : Nat → Int} (h : IsI64 w (some ⟨g, off, none⟩) len cap Z) (p : Addr) (hp : p.block ≠ g) (u : Value) : IsI64 (w.setCell p u) (some ⟨g, off, none⟩) len cap Z := by
  obtain ⟨h1, h2, h3⟩ := h
  refine ⟨h1, h2, fun hp' => ?_⟩
  obtain ⟨b, o, e, hb, hc⟩ := h3 hp'
  simp only [Option.some.injEq, Addr.mk.injEq, and_true] at e
  obtain ⟨rfl, rfl⟩ := e
  refine ⟨_, _, rfl, by simpa [World.setCell] using hb, fun i hi => ?_⟩
  rw [← hc i hi]
  exact World.cell?_of_block (Below.heap_setCell _ _ _ _ (by simpa using Ne.symm hp))

set_option maxHeartbeats 400000 in
theorem toEpoch_any (K : Int) (a : Option Addr) (len cap : Nat) (Z : Nat → Int) (w : World) (h : IsI64 w a len cap Z) (hlen : len ≤ 1048576) :
    Calls Tryd.prog 30 #[.agg #[.int .i64 K, .slice a len cap]] w fun e w' => ∃ g, e = .returned (.agg #[.int .i64 K, .slice (some ⟨g, 0, none⟩) len len]) ∧ w.heap.size ≤ g ∧ IsI64 w' (some ⟨g, 0, none⟩) len len Z ∧ Below w.heap.size w w' := by
  go_enter Tryd.func30, Tryd.ntmps30
  go_wp2_with fail
  have hB3 : Below w.heap.size w (((w.alloc (Obj.cells #[Value.int IntKind.i64 K, Value.slice a len cap] 54)).alloc (Obj.cells #[Value.int IntKind.i64 0, Value.slice none 0 0] 58)).alloc (Obj.cells #[Value.int IntKind.i64 K, Value.slice none 0 0] 58)) :=
    (((Below.refl _ _).alloc (Nat.le_refl _) _).alloc (by simp) _).alloc (by simp; omega) _
  refine (toInt64S_any a len cap Z _ (h.below hB3) hlen).mono ?_
  rintro e w1 ⟨rfl, hlt, hI, hB⟩
  obtain ⟨hc, hf⟩ := bcell hB
  have hz : w.heap.size + 3 < w1.heap.size := by simpa using hlt
  have hBB : Below w.heap.size w w1 := hB3.trans (hB.mono (by simp; omega))
  simp only [World.size_alloc] at hI hc hf
  clear hB hB3 hlt
  go_wp2
  refine bodyPost_ret (v := .agg #[.int .i64 K, .slice (some ⟨w.heap.size + 1 + 1 + 1, 0, none⟩) len len]) (by simp [results, Tryd.results30, go_sem, hc]) rfl ⟨w.heap.size + 1 + 1 + 1, rfl, by omega, ?_, ?_⟩
  · exact ((hI.other _ (by simp) _).other _ (by simp) _).other _ (by simp) _
  · exact ((hBB.setCell (by simp; omega) _).setCell (by simp) _).setCell (by simp) _

/-- a slice of epochs that reads as keys K i and members M i 0, M i 1, .. (L i of them) in world w -/
def IsEps (w : World) (a : Option Addr) (len cap : Nat) (K : Nat → Int) (L : Nat → Nat) (M : Nat → Nat → Int) : Prop :=
  len ≤ cap ∧ cap ≤ 9223372036854775807 ∧ (0 < len → ∃ (b off : Nat) (A : Nat → Option Addr) (C : Nat → Nat), a = some ⟨b, off, none⟩ ∧ b < w.heap.size ∧ ∀ i, i < len → w.cell? ⟨b, off + i * 2, none⟩ = some (.int .i64 (K i)) ∧ w.cell? ⟨b, off + i * 2 + 1, none⟩ = some (.slice (A i) (L i) (C i)) ∧ IsI64 w (A i) (L i) (C i) (M i))

theorem IsEps.below {w w' : World} {a : Option Addr} {len cap : Nat} {K : Nat → Int} {L : Nat → Nat} {M : Nat → Nat → Int} (h : IsEps w a len cap K L M) (hB : Below w.heap.size w w') : IsEps w' a len cap K L M := by
  obtain ⟨h1, h2, h3⟩ := h
  refine ⟨h1, h2, fun hp => ?_⟩
  obtain ⟨b, off, A, C, e, hb, hc⟩ := h3 hp
  refine ⟨b, off, A, C, e, by have := hB.size; omega, fun i hi => ?_⟩
  obtain ⟨c1, c2, c3⟩ := hc i hi
  exact ⟨(hB.cell (p := ⟨b, _, none⟩) hb).trans c1, (hB.cell (p := ⟨b, _, none⟩) hb).trans c2, c3.below hB⟩

set_option maxHeartbeats 400000 in
theorem szEpochS_any (a : Option Addr) (len cap : Nat) (K : Nat → Int) (L : Nat → Nat) (M : Nat → Nat → Int) (w : World) (h : IsEps w a len cap K L M) :
    Calls Tryd.prog 10 #[.slice a len cap, .int .i64 1048576] w fun e w' => ∃ r : Int, e = .returned (.int .i64 r) ∧ (r < 0 ∨ (0 ≤ r ∧ r ≤ 1048576 ∧ len ≤ 1048576 ∧ ∀ i, i < len → L i ≤ 1048576)) ∧ Below w.heap.size w w' := by
  obtain ⟨hlc, hcm, hc⟩ := h
  by_cases h0 : (1048576 : Int) - (len : Int) < 0
  · go_enter Tryd.func10, Tryd.ntmps10
    go_wp2
    go_ret
    exact ⟨_, rfl, .inl (by decide), Below.refl _ _⟩
  · have h0' : 0 ≤ (1048576 : Int) - (len : Int) := by omega
    go_enter Tryd.func10, Tryd.ntmps10
    go_wp2
    go_loopw [1, 5] (fun l i wr => ∃ (k : Nat) (r : Int), k ≤ len ∧ i = .int .i64 k ∧ l = .int .i64 r ∧ 0 ≤ r ∧ r ≤ 1048576 ∧ (∀ j, j < k → L j ≤ 1048576) ∧ Below w.heap.size w wr)
      (fun _ i _ => len - (intOf i).toNat)
    case atStart => exact ⟨0, _, Nat.zero_le _, rfl, rfl, by omega, by omega, fun j hj => absurd hj (Nat.not_lt_zero _), Below.refl _ _⟩
    case round =>
      obtain ⟨k, r, hk, rfl, rfl, hr0, hr1, hall, hB⟩ := hrel
      have HA : Hid (∀ j, j < k → L j ≤ 1048576) := hall
      clear hall
      by_cases hlt : k < len
      · obtain ⟨b, off, A, C, rfl, hbs, hcell⟩ := hc (by omega)
        obtain ⟨c1, c2, c3⟩ := hcell k hlt
        have d1 := (hB.cell (p := ⟨b, off + k * 2, none⟩) hbs).trans c1
        have d2 := (hB.cell (p := ⟨b, off + k * 2 + 1, none⟩) hbs).trans c2
        have hLk : L k ≤ 9223372036854775807 := by have := c3.1; have := c3.2.1; omega
        clear hcell hc c1 c2 c3
        by_cases hs : r - (L k : Int) < 0
        · go_wp2_with (go_at_call 26; refine (szEpoch_any _ _ _ _ _ _ hLk hr0 hr1).mono ?_; rintro e w' ⟨rfl, hB2⟩; rw [if_pos hs])
          go_ret
          exact ⟨_, rfl, .inl (by decide), hB.trans (hB2.mono hB.size)⟩
        · go_wp2_with (go_at_call 26; refine (szEpoch_any _ _ _ _ _ _ hLk hr0 hr1).mono ?_; rintro e w' ⟨rfl, hB2⟩; rw [if_neg hs])
          go_roundw
          case rel =>
            refine ⟨k + 1, _, by omega, by go_num, rfl, by omega, by omega, fun j hj => ?_, hB.trans (hB2.mono hB.size)⟩
            rcases Nat.lt_succ_iff_lt_or_eq.1 hj with h1 | rfl
            · exact HA.out j h1
            · omega
          case measure => simp [intOf]; omega
      · have hke : k = len := by omega
        subst hke
        go_wp2
        go_ret
        exact ⟨_, rfl, .inr ⟨hr0, hr1, by omega, HA.out⟩, hB⟩

theorem info35 : (Tryd.prog.info? 58).map (fun i => (i.zero, i.size, i.bytes)) = some (some (.agg #[.int .i64 0, .slice none 0 0]), 2, 32) := by kernel_rfl

theorem ownsRow_below {w w' : World} {base : Nat} {e : TypeId} {size : Nat} {v : Value} {n : Nat} {xs : List Value} (h : w.ownsRow base e size v n xs) (hB : Below w.heap.size w w') : w'.ownsRow base e size v n xs := by
  obtain ⟨h1, h2⟩ := h
  refine ⟨h1, ?_⟩
  rcases h2 with h2 | ⟨g, cap, cur, hv, hg, hh, r⟩
  · exact Or.inl h2
  · exact Or.inr ⟨g, cap, cur, hv, hg, (hB.block g (lt_of_block hh)).trans hh, r⟩

theorem own_some {w : World} {base : Nat} {e : TypeId} {size g n cap : Nat} {xs : List Value} (h : w.ownsRow base e size (.slice (some ⟨g, 0, none⟩) n cap) n xs) (j : Nat) (hj : j < n * size) : ∃ v, w.cell? ⟨g, j, none⟩ = some v := by
  rw [h.cellAt j hj]
  have := h.1
  exact ⟨xs[j]'(by omega), List.getElem?_eq_getElem (by omega)⟩

set_option maxHeartbeats 400000 in
theorem toEpochS_any (a : Option Addr) (len cap : Nat) (K : Nat → Int) (L : Nat → Nat) (M : Nat → Nat → Int) (w : World) (h : IsEps w a len cap K L M) (hl : len ≤ 1048576) (hL : Hid (∀ i, i < len → L i ≤ 1048576)) :
    Calls Tryd.prog 12 #[.slice a len cap] w fun e w' => ∃ g, e = .returned (.slice (some ⟨g, 0, none⟩) len len) ∧ IsEps w' (some ⟨g, 0, none⟩) len len K L M ∧ Below w.heap.size w w' := by
  obtain ⟨hlc, hcm, hc⟩ := h
  obtain ⟨i0, hi, hz0, hz1, hz2⟩ := info_parts info35
  have hb2 : i0.bytes * len ≤ 281474976710656 := by rw [hz2]; omega
  have hb3 : len ≤ maxLen := by unfold maxLen; omega
  go_enter Tryd.func12, Tryd.ntmps12
  go_wp2_with (at_make; refine wpList_make_full _ rfl _ _ 33 rfl w.heap.size 58 i0 (.agg #[.int .i64 0, .slice none 0 0]) 2 Tryd.underlying33 hi hz0 hz1 .i64 .i64 _ _ len rfl rfl rfl rfl hb2 hb3 (Nat.le_refl _) ?_; intro w1 hown hgrow)
  have hB1 : Below w.heap.size w w1 := (Below.refl _ w).grown hgrow (Nat.le_refl _) (fun k hk => by cases hk)
  clear hgrow
  go_loopw [4] (fun i wr => ∃ (k : Nat) (xs : List Value), k ≤ len ∧ i = .int .i64 k ∧ wr.ownsRow w.heap.size 58 2 (.slice (some ⟨w.heap.size, 0, none⟩) len len) len xs ∧
      (∀ j, j < k → xs[j * 2]? = some (.int .i64 (K j)) ∧ ∃ g, g ≠ w.heap.size ∧ xs[j * 2 + 1]? = some (.slice (some ⟨g, 0, none⟩) (L j) (L j)) ∧ IsI64 wr (some ⟨g, 0, none⟩) (L j) (L j) (M j)) ∧ Below w.heap.size w wr)
    (fun i _ => len - (intOf i).toNat)
  case atStart => exact ⟨0, _, Nat.zero_le _, rfl, hown, fun j hj => absurd hj (Nat.not_lt_zero _), hB1⟩
  case round =>
    obtain ⟨k, xs, hk, rfl, how, hall, hB⟩ := hrel
    have HA := (show Hid _ from hall)
    clear hall
    by_cases hlt : k < len
    · obtain ⟨b, off, A, C, rfl, hbs, hcell⟩ := hc (by omega)
      obtain ⟨c1, c2, c3⟩ := hcell k hlt
      have d1 := (hB.cell (p := ⟨b, off + k * 2, none⟩) hbs).trans c1
      have d2 := (hB.cell (p := ⟨b, off + k * 2 + 1, none⟩) hbs).trans c2
      have c3' := c3.below (hB.mono (Nat.le_refl _))
      clear hcell hc c1 c2 c3
      have hws : w.heap.size < wr.heap.size := by
        rcases how.2 with ⟨h', _⟩ | ⟨g', cap', cur, h', _, hg, _⟩
        · simp at h'
        · simp only [Value.slice.injEq, Option.some.injEq, Addr.mk.injEq, and_true, true_and] at h'
          obtain ⟨rfl, rfl⟩ := h'
          exact lt_of_block hg
      have hxl : xs.length = len * 2 := how.1
      have HO := (show Hid _ from how)
      clear how hown
      go_wp2_with (go_at_call 30; refine (toEpoch_any _ _ _ _ _ _ c3' (hL.out k hlt)).mono ?_; rintro e w' ⟨g, rfl, hgw, hI, hB2⟩; have f1 := (ownsRow_below HO.out hB2).frozenAt (k * 2); have f2 := (ownsRow_below HO.out hB2).frozenAt (k * 2 + 1); obtain ⟨v1, e1⟩ := own_some (ownsRow_below HO.out hB2) (k * 2) (by omega); obtain ⟨v2, e2⟩ := own_some (ownsRow_below HO.out hB2) (k * 2 + 1) (by omega))
      go_roundw
      case rel =>
        refine ⟨k + 1, (xs.set (k * 2) (.int .i64 (K k))).set (k * 2 + 1) (.slice (some ⟨g, 0, none⟩) (L k) (L k)), by omega, by go_num, ?_, ?_, ?_⟩
        · exact ((ownsRow_below HO.out hB2).stored _ _).1.stored _ _ |>.1
        · intro j hj
          rcases Nat.lt_succ_iff_lt_or_eq.1 hj with h1 | rfl
          · obtain ⟨q1, g', hg', q2, q3⟩ := HA.out j h1
            refine ⟨?_, g', hg', ?_, ?_⟩
            · rw [List.getElem?_set_ne (by omega), List.getElem?_set_ne (by omega)]; exact q1
            · rw [List.getElem?_set_ne (by omega), List.getElem?_set_ne (by omega)]; exact q2
            · exact ((q3.below hB2).other _ (fun h => hg' h.symm) _).other _ (fun h => hg' h.symm) _
          · refine ⟨?_, g, by omega, ?_, ?_⟩
            · rw [List.getElem?_set_ne (by omega), List.getElem?_set_self (by omega)]
            · rw [List.getElem?_set_self (by simp; omega)]
            · exact (hI.other _ (by simp; omega) _).other _ (by simp; omega) _
        · exact ((hB.trans (hB2.mono hB.size)).setCell (Nat.le_refl _) _).setCell (Nat.le_refl _) _
      case measure => simp [intOf]; omega
    · have hke : k = len := by omega
      subst hke
      have hfin : IsEps wr (some ⟨w.heap.size, 0, none⟩) k k K L M := by
        refine ⟨Nat.le_refl _, by omega, fun hp => ?_⟩
        have hws : w.heap.size < wr.heap.size := by
          rcases how.2 with ⟨h', _⟩ | ⟨g', cap', cur, h', _, hg, _⟩
          · simp at h'
          · simp only [Value.slice.injEq, Option.some.injEq, Addr.mk.injEq, and_true, true_and] at h'
            obtain ⟨rfl, rfl⟩ := h'
            exact lt_of_block hg
        have hch : ∃ G : Nat → Nat, ∀ j, j < k → xs[j * 2 + 1]? = some (.slice (some ⟨G j, 0, none⟩) (L j) (L j)) ∧ IsI64 wr (some ⟨G j, 0, none⟩) (L j) (L j) (M j) :=
          Go.Deep.choose_lt (p := fun j g => xs[j * 2 + 1]? = some (.slice (some ⟨g, 0, none⟩) (L j) (L j)) ∧ IsI64 wr (some ⟨g, 0, none⟩) (L j) (L j) (M j)) (fun j hj => by obtain ⟨_, g, _, q2, q3⟩ := HA.out j hj; exact ⟨g, q2, q3⟩)
        obtain ⟨G, hG⟩ := hch
        refine ⟨w.heap.size, 0, fun j => some ⟨G j, 0, none⟩, fun j => L j, rfl, hws, fun j hj => ⟨?_, ?_, (hG j hj).2⟩⟩
        · rw [Nat.zero_add, how.cellAt _ (by omega)]; exact (HA.out j hj).1
        · rw [Nat.zero_add, how.cellAt _ (by omega)]; exact (hG j hj).1
      clear how hown hB1 HA
      go_wp2
      go_ret
      exact ⟨_, rfl, hfin, hB⟩

end Go.Proofs.YtcolcnkjcagbaaaDoor.Ep
